/- Layer 11, the program: live.through. Condition: the table of parts reads as listed. -/
import Derived.Test.YteoopilmdlhkhaaDoorPaJA
set_option linter.unusedSimpArgs false
set_option linter.unusedVariables false
namespace Go.Proofs.YteoopilmdlhkhaaDoor
open Go.RowKit Go.Shelf
attribute [local go_sem] Oper.semAt_some

theorem Box.own {W W' : World} {row : Option Nat} {B : Nat} {cs : Array Value} {T : TypeId} (h : Box W B cs T) (hg : W.grownBy W' row) (hr : ∀ r, row = some r → ∃ o : Obj, W.heap[r]? = some o ∧ o.isCells = false) : Box W' B cs T :=
  (hg.block B h.lt (fun e => by obtain ⟨o, ho, hc⟩ := hr B e.symm; rw [show W.heap[B]? = _ from h] at ho; cases ho; cases hc)).trans h
theorem SetV.own {W W' : World} {row : Option Nat} {v : Value} {s : List Nat} (h : SetV W v s) (hg : W.grownBy W' row) (hr : ∀ r, row = some r → ∃ o : Obj, W.heap[r]? = some o ∧ o.isCells = false) : SetV W' v s := by
  obtain ⟨A, c, h1, h2, h3, h4⟩ := h
  refine ⟨A, c, h1, h2, h3, fun hp => ?_⟩
  obtain ⟨b, o, e, hb, hc⟩ := h4 hp
  exact ⟨b, o, e, Nat.lt_of_lt_of_le hb hg.size, fun j hj => cell_kept (hc j hj) hg hr⟩
theorem keeps_below {W W' : World} (h : Below W.heap.size W W') : KeepsOthers W W' := ⟨h.size, fun k o hk _ => (h.block k (Array.getElem?_eq_some_iff.1 hk).1).trans hk⟩
theorem bxd_below {W W' : World} {B : Nat} {t : TypeId} {v : Value} (h : Boxed W B t v) (hb : Below W.heap.size W W') : Boxed W' B t v := (hb.block B h.lt).trans h
theorem KpB.below {h Bs : Nat} {t : TypeId} {vs : Value} {W W' : World} (hb : Below W.heap.size W W') (hh : h ≤ W.heap.size) : KpB h Bs t vs W W' := ⟨hb.mono hh, fun k => (hb.block Bs k.lt).trans k⟩
theorem KpB.set {h Bs : Nat} {t : TypeId} {vs u : Value} {W : World} (hne : Bs ≠ h) : KpB h Bs t vs W (W.setCell ⟨h, 0, none⟩ u) := ⟨(Below.refl _ _).setCell (p := ⟨h, 0, none⟩) (Nat.le_refl _) _, fun k => k.other hne u⟩
theorem bkL_snoc {w : World} {B : Nat} (pre : List (BkT w B)) (x : BkT w B) (s : List Nat) : (bkL (pre ++ [x])).foldl (fun s y => insS y s) s = insS x.1.2.1 ((bkL pre).foldl (fun s y => insS y s) s) := by
  unfold bkL
  rw [List.map_append, List.foldl_append]
  rfl
theorem fold_ok {l : List InsV} {s : List Nat} (h : SetOk s) : SetOk (l.foldl (fun s y => insS y s) s) := by
  induction l generalizing s with
  | nil => exact h
  | cons x l ih => rw [List.foldl_cons]; exact ih (insS_ok h)
/-- The variable that lies in box h: the set so far, in a block made since, or as it was handed in. -/
def FrA (h : Nat) (Av A : Option Addr) : Prop := A = Av ∨ ∀ b o, A = some ⟨b, o, none⟩ → h ≤ b
def LvB (Av : Option Addr) (W : World) (h : Nat) (s : List Nat) : Prop := ∃ A c, FrA h Av A ∧ Boxed W h 39 (.slice A s.length c) ∧ SetV W (.slice A s.length c) s
theorem LvB.own {Av : Option Addr} {h : Nat} {W W' : World} {row : Option Nat} {s : List Nat} (k : LvB Av W h s) (hg : W.grownBy W' row) (hr : ∀ r, row = some r → ∃ o : Obj, W.heap[r]? = some o ∧ o.isCells = false) : LvB Av W' h s :=
  let ⟨A, c, h0, h1, h2⟩ := k; ⟨A, c, h0, Box.own (cs := #[.slice A s.length c]) h1 hg hr, h2.own hg hr⟩
theorem LvB.alloc {Av : Option Addr} {h : Nat} {W : World} {s : List Nat} (k : LvB Av W h s) (o : Obj) : LvB Av (W.alloc o) h s :=
  let ⟨A, c, h0, h1, h2⟩ := k; ⟨A, c, h0, h1.alloc o, h2.below (alloc1 W o)⟩
theorem SetV.box {h : Nat} {W : World} {s : List Nat} {v0 u v : Value} (hb : Boxed W h 39 v0) (hv : SetV W v s) (h0 : ∃ A n c, v0 = .slice A n c := by exact ⟨_, _, _, rfl⟩) : SetV (W.setCell ⟨h, 0, none⟩ u) v s :=
  hv.far (cs := #[v0]) (T := 39) hb (fun i x hx => by
    cases i with
    | zero => simp at hx; obtain ⟨A, n, c, e⟩ := h0; exact ⟨A, n, c, by rw [← hx]; exact e⟩
    | succ i => simp at hx)
theorem uses_R {w : World} {B : Nat} {va : Value} {x : InsV} (h : InsI w (· < B) va x) : ∀ z ∈ usesL x, i64R z := fun z hz => by
  unfold usesL at hz
  simp only [List.mem_append] at hz
  rcases hz with (hz | hz) | hz
  · split at hz
    · simp at hz; subst hz; exact h.2.2.2.1
    · simp at hz
  · split at hz
    · simp at hz; subst hz; exact h.2.2.2.2.1
    · simp at hz
  · split at hz
    · obtain ⟨_, _, _, _, _, _, hz2⟩ := h.1.sl
      exact hz2 z hz
    · simp at hz
theorem usesL_len (x : InsV) : (usesL x).length ≤ x.args.length + 2 := by
  unfold usesL
  simp only [List.length_append]
  split <;> split <;> split <;> simp <;> omega
def addrOf : Value → Option Addr | .slice A _ _ => A | _ => none
/-- One round of through in memory: what a call leaves. -/
theorem thr_end {W W1 W2 : World} {h Bs B : Nat} {t : TypeId} {vs : Value} {A : Option Addr} {c : Nat} {A0 : Option Addr} {n0 c0 : Nat} {s : List Nat} (h12 : KpB h Bs t vs W W1 ∧ KeepsFrom B W W1) (hb : Below W1.heap.size W1 W2) (hh : h ≤ W1.heap.size) (hne : Bs ≠ h) (hbx : Boxed W1 h 39 (.slice A0 n0 c0)) (hv : SetV W2 (.slice A s.length c) s) :
    KpB h Bs t vs W (W2.setCell ⟨h, 0, none⟩ (.slice A s.length c)) ∧ KeepsFrom B W (W2.setCell ⟨h, 0, none⟩ (.slice A s.length c)) ∧ Boxed (W2.setCell ⟨h, 0, none⟩ (.slice A s.length c)) h 39 (.slice A s.length c) ∧ SetV (W2.setCell ⟨h, 0, none⟩ (.slice A s.length c)) (.slice A s.length c) s :=
  ⟨(h12.1.t (KpB.below hb hh)).t (KpB.set hne), (h12.2.trans ((keeps_below hb).from _)).trans ((KeepsOthers.setCell _ _ _).from _), Boxed.set _ ((hb.block h hbx.lt).trans hbx), SetV.box (v0 := .slice A0 n0 c0) ((hb.block h hbx.lt).trans hbx) hv⟩

set_option maxRecDepth 100000 in
set_option maxHeartbeats 4000000 in
theorem through_any (A : Option Addr) (len cap : Nat) (ls : List InsV) (v : Value) (s : List Nat) (w : World) (hls : InssV w (· < w.heap.size) (.slice A len cap) ls) (hlen : ls.length = len) (hm4 : len ≤ 4611686018427387904) (hs : SetV w v s) (hk : SetOk s) (hT : TabP w) (hu : ∀ x ∈ ls, x.args.length ≤ 1099511627000) :
    Calls Tryd.prog 69 #[.slice A len cap, v] w fun e w' => ∃ A' c', e = .returned (.slice A' (thrS ls s).length c') ∧ FrA w.heap.size (addrOf v) A' ∧ SetV w' (.slice A' (thrS ls s).length c') (thrS ls s) ∧ Below w.heap.size w w' := by
  obtain ⟨Av, cv, rfl, hv1, hv2, hv3⟩ := hs
  have hs : SetV w (.slice Av s.length cv) s := ⟨Av, cv, rfl, hv1, hv2, hv3⟩
  obtain ⟨W0, hW0⟩ : ∃ W0, (w.alloc (.cells #[.slice Av s.length cv] 39)).alloc (.cells #[.slice A len cap] 29) = W0 := ⟨_, rfl⟩
  have hz0 : W0.heap.size = w.heap.size + 2 := by rw [← hW0]; simp
  have hB0 : Below w.heap.size w W0 := by rw [← hW0]; exact ((Below.refl _ w).alloc (Nat.le_refl _) _).alloc (by simp) _
  have hL0 : LvB Av W0 w.heap.size s := by rw [← hW0]; exact ⟨Av, cv, .inl rfl, (Boxed.new w _ _).alloc _, (hs.below (alloc1 w _)).below (alloc1 _ _)⟩
  have hS0 : Boxed W0 (w.heap.size + 1) 29 (.slice A len cap) := by
    rw [← hW0]
    have t := Boxed.new (w.alloc (.cells #[.slice Av s.length cv] 39)) 29 (.slice A len cap)
    rw [World.size_alloc] at t
    exact t
  have hls0 : InssV W0 (· < w.heap.size) (.slice A len cap) ls := hls.keep (up hB0 (Nat.le_refl _)) (fun _ h => h)
  obtain ⟨n1, hn1⟩ : ∃ n1, s.length = n1 := ⟨_, rfl⟩
  rw [hn1] at hW0 ⊢
  refine (callsIn_wide (n := 9)).1 ?_
  refine callsIn_of_wp_marks Tryd.func69 rfl trivial ?_ rfl
  simp only [Tryd.ntmps69, List.size_toArray, List.length_cons, List.length_nil, Nat.reduceAdd, Nat.reduceSub, Array.replicate_succ, Array.replicate_zero, List.push_toArray, List.append_toArray, List.nil_append, List.cons_append]
  gi_wp2_with (refine ⟨trivial, ?_⟩; gi_at_call 32; refine (callsIn_wide.2 (backward_any A len cap _)).mono ?_; rintro e w' ⟨rfl, rfl⟩)
  (try simp only [World.size_alloc])
  (try rw [hW0])
  refine wpIn_rangeFunc_ownH rfl (by omega) (gf := 54) (lb := #[.pointer (some ⟨w.heap.size + 1, 0, none⟩)]) rfl trivial (enters_of Tryd.func54 (by kernel_rfl) rfl)
    (back_stops (9 - 1) (w.heap.size + 1) w.heap.size W0 A len cap ls hls0 hlen hu (by omega) (by omega) hm4 hS0) KpB.t (KpB.b (by omega) (by omega)) (Below.refl _ _) (fun _ => rfl)
    (fun pre W => (LvB Av W w.heap.size ((bkL pre).foldl (fun s y => insS y s) s) ∧ Boxed W (w.heap.size + 1) 29 (.slice A len cap)) ∧ Below w.heap.size w W)
    (fun _ _ _ => False)
    (OwnFrom.and (OwnFrom.and (Own.from (fun pre X Y row k hg hr => k.own hg hr) _) (Own.from (boxed_own _ _ _) _)) (ownFrom_below (Nat.le_refl _) (by omega)))
    (fun _ _ _ _ _ hs _ _ => hs)
    ⟨⟨hL0, hS0⟩, hB0⟩
    (fun x a' W => ∃ Bx, w.heap.size + 1 < Bx ∧ Box W Bx #[.int .i64 x.1.2.1.op, .int .i64 x.1.2.1.d, .int .i64 x.1.2.1.a, .int .i64 x.1.2.1.b, .int .i64 x.1.2.1.n, .int .i64 x.1.2.1.m, x.1.2.2] 28 ∧ a' = { tmps := #[.slice A len cap, .slice Av n1 cv, undef, .pointer (some ⟨w.heap.size, 0, none⟩), .slice none 0 0, undef, .pointer (some ⟨Bx, 0, none⟩), undef, undef, .slice A len cap, .func (.func 54) #[] #[.pointer (some ⟨w.heap.size + 1, 0, none⟩)], .int .i64 x.1.1, .agg #[.int .i64 x.1.2.1.op, .int .i64 x.1.2.1.d, .int .i64 x.1.2.1.a, .int .i64 x.1.2.1.b, .int .i64 x.1.2.1.n, .int .i64 x.1.2.1.m, x.1.2.2], undef, undef, undef, undef, undef, undef, undef, undef, undef, undef, undef, undef, undef, undef, undef], defers := [] })
    (fun x a' _ X Y row hs hg hr => by obtain ⟨Bx, h1, h2, h3⟩ := hs; exact ⟨Bx, h1, h2.own hg (fun r e => (hr r e).2), h3⟩)
    ?assign ?body ?done ?stop
  case assign =>
    rintro l pre ⟨⟨z, x, va⟩, hx, hxl⟩ W K ⟨⟨hL, hS⟩, hB⟩ hK
    have hx' : InsI W0 (· < w.heap.size) va x := hx
    have hxl' : x.args.length ≤ 1099511627000 := hxl
    obtain ⟨Ax, cx, rfl⟩ := hx'.open'
    have hsz := hB.size
    dsimp only [bkE]
    gi_wp2
    exact hK _ _ ((KeepsOthers.alloc _ _).from _) (KpB.below (alloc1 W _) hsz) ⟨⟨hL.alloc _, hS.alloc _⟩, hB.alloc hsz _⟩ ⟨W.heap.size, hS.lt, Box.new W _ _, rfl⟩
  case body =>
    have hmx : Tryd.prog.follows .mixedOrders = true := by kernel_rfl
    rintro l pre ⟨⟨z, x, va⟩, hx, hxl⟩ a' W hl ⟨r, hr⟩ ⟨⟨hL, hS⟩, hB⟩ ⟨Bx, hBx, bX, rfl⟩ hlt
    have hx' : InsI W0 (· < w.heap.size) va x := hx
    have hxl' : x.args.length ≤ 1099511627000 := hxl
    obtain ⟨Ax, cx, rfl⟩ := hx'.open'
    dsimp only at bX ⊢
    replace hx := hx'
    replace hxl := hxl'
    have hsW := hB.size
    obtain ⟨S0, hS00⟩ : ∃ S0, (bkL pre).foldl (fun s y => insS y s) s = S0 := ⟨_, rfl⟩
    have hok : SetOk S0 := by rw [← hS00]; exact fold_ok hk
    have HSN := hide (bkL_snoc pre ⟨⟨z, x, .slice Ax x.args.length cx⟩, hx, hxl⟩ s)
    rw [hS00] at hL HSN
    dsimp only at HSN
    obtain ⟨Au, cu, hFr, hLb, hLs⟩ := hL
    have HXI := hide (fun (V : World) (hV : Below w.heap.size w V) => hx.keep (w' := V) (S' := (· < w.heap.size)) (fun b o hb => (hV.cell (p := ⟨b, o, none⟩) hb).trans (hB0.cell (p := ⟨b, o, none⟩) hb).symm) (fun _ h => h))
    have hxR := hx.2
    have hdR : i64R x.d := hxR.2.1
    have huR : ∀ z ∈ usesL x, i64R z := uses_R (HXI.out w (Below.refl _ _))
    have hul : (usesL x).length ≤ 1099511627776 := by have := usesL_len x; omega
    have HSE := hide (sets_any x Ax x.args.length cx W (hT.below hB hT.1) hxR.1)
    have HUS := hide (fun (V : World) (hV : Below w.heap.size w V) => uses_any x (.slice Ax x.args.length cx) V w.heap.size hV.size (hT.below hV hT.1) (HXI.out V hV) hxl)
    have CX : ∀ {V : World}, Box V Bx #[.int .i64 x.op, .int .i64 x.d, .int .i64 x.a, .int .i64 x.b, .int .i64 x.n, .int .i64 x.m, .slice Ax x.args.length cx] 28 → V.cell? ⟨Bx, 0, none⟩ = some (.int .i64 x.op) ∧ V.cell? ⟨Bx, 1, none⟩ = some (.int .i64 x.d) ∧ V.cell? ⟨Bx, 2, none⟩ = some (.int .i64 x.a) ∧ V.cell? ⟨Bx, 3, none⟩ = some (.int .i64 x.b) ∧ V.cell? ⟨Bx, 4, none⟩ = some (.int .i64 x.n) ∧ V.cell? ⟨Bx, 5, none⟩ = some (.int .i64 x.m) ∧ V.cell? ⟨Bx, 6, none⟩ = some (.slice Ax x.args.length cx) := fun b => ⟨(b.cell 0 rfl).1, (b.cell 1 rfl).1, (b.cell 2 rfl).1, (b.cell 3 rfl).1, (b.cell 4 rfl).1, (b.cell 5 rfl).1, (b.cell 6 rfl).1⟩
    obtain ⟨c0, c1, c2, c3, c4, c5, c6⟩ := CX bX
    obtain ⟨n0, hn0⟩ : ∃ n0, S0.length = n0 := ⟨_, rfl⟩
    rw [hn0] at hLb hLs
    have HN0 := hide hn0
    obtain ⟨SN, hSN⟩ : ∃ SN, (bkL (pre ++ [(⟨⟨z, x, .slice Ax x.args.length cx⟩, hx, hxl⟩ : BkT W0 w.heap.size)])).foldl (fun s y => insS y s) s = SN := ⟨_, rfl⟩
    have HSX := hide (hSN.symm.trans HSN.out)
    have HSQ := hide hSN
    clear HSN hSN
    unfold insS at HSX
    have HWI0 := hide (fun (q : List Nat) (hq : SetOk q) (V : World) (v : Value) (hv : SetV V v q) (A4 : Option Addr) (c4 : Nat) (h4 : Sl V V.heap.size .i64 A4 (usesL x)) => withV hv (by have := hq.1; omega) hq.2 A4 (usesL x).length c4 (usesL x) h4 rfl hul huR)
    have HWO0 := hide (fun (V : World) (hv : SetV V (.slice Au n0 cu) S0) (T : Option Addr) (hr : Sl V V.heap.size .i64 T [x.d]) => withoutV hv (by have := hok.1; omega) hok.2 T 1 1 [x.d] hr rfl (by omega) (by intro z hz; simp at hz; subst hz; exact hdR))
    have hok1 : SetOk (withoutL S0 [x.d]) := ⟨by have := withoutL_len S0 [x.d]; have := hok.1; omega, withoutL_w64 hok.2 _⟩
    generalize usesL x = ul at *
    cases hb68 : hasB4 x.op 68 with
    | false =>
      rw [hb68] at HSE HSX
      simp only [Bool.false_eq_true, if_false] at HSE HSX
      have HWI := hide (HWI0.out S0 hok)
      generalize joinL [S0, ofL ul] = S2 at *
      clear HWI0 HWO0 hok1
      gi_wp2_with (refine ⟨trivial, ?_⟩; gi_at_call 33; refine (CallsIn.inRound l (callsIn_wide.2 HSE.out)).mono ?_; rintro e w2 ⟨rfl, hb2⟩; have HB2 := hide hb2; have HK2 := hide (show KpB w.heap.size (w.heap.size + 1) 29 (.slice A len cap) W w2 ∧ KeepsFrom W0.heap.size W w2 from ⟨KpB.below hb2 hsW, (keeps_below hb2).from _⟩); have HBU2 := hide (show Boxed w2 w.heap.size 39 (.slice Au n0 cu) from (hb2.block _ hLb.lt).trans hLb); have HSU2 := hide (hLs.below hb2); have HBX2 := hide (bX.below hb2); obtain ⟨a0, a1, a2, a3, a4, a5, a6⟩ := CX (bX.below hb2); have u0 := HBU2.out.cell; have u1 := HBU2.out.frozen; clear hb2)
      gi_region_with_o (first
        | (refine ⟨trivial, ?_⟩; gi_at_call 35; refine (CallsIn.inRound l (callsIn_wide.2 (HWI.out _ _ HSU4.out A4 c4' HS4.out))).mono ?_; rintro e w5 ⟨r5, rfl, hr5, hb5⟩; obtain ⟨A5, c5', rfl, -, -, -, hf5⟩ := id hr5; have HF5 := hide hf5; clear hf5; have hb45 := HB4.out.trans (hb5.mono HB4.out.size); have HE5 := hide (thr_end (A := A5) (c := c5') (s := S2) HK2.out hb45 (by have := HB2.out.size; have := (HK2.out).1.1.size; omega) (by omega) (HBU2.out) hr5.ws); have z0 := (bxd_below HBU2.out hb45).cell; have z1 := (bxd_below HBU2.out hb45).frozen; clear hb45 hb5 hr5)
        | (refine ⟨trivial, ?_⟩; gi_at_call 36; refine (CallsIn.inRound l (callsIn_wide.2 (HUS.out (w2).drew (hB.trans (HB2.out.mono hsW)).drew))).mono ?_; rintro e w4 ⟨v4, rfl, ho4, hb4'⟩; have hb4 : Below (w2).heap.size (w2) w4 := ⟨hb4'.os, hb4'.tape, hb4'.output, hb4'.size, hb4'.block⟩; obtain ⟨A4, c4', rfl, hn4, hm4', hs4⟩ := ho4.sl; have HB4 := hide hb4; have HS4 := hide hs4; have HSU4 := hide ((HSU2.out).below hb4); have v0 := (bxd_below HBU2.out hb4).cell; have v1 := (bxd_below HBU2.out hb4).frozen; clear hb4' hb4 ho4 hs4))
      all_goals gi_wp2
      all_goals (try go_bits)
      all_goals have HGS := hide (show w.heap.size ≤ w2.heap.size by have := HB2.out.size; omega)
      all_goals exact ⟨HE5.out.2.1, HE5.out.1, ⟨⟨⟨A5, c5', .inr (fun b o e => by have := HF5.out b o e; have := HB4.out.size; have := HGS.out; omega), by rw [HSQ.out, HSX.out]; exact HE5.out.2.2.1, by rw [HSQ.out, HSX.out]; exact HE5.out.2.2.2⟩, HE5.out.1.2 hS⟩, hB.trans HE5.out.1.1⟩⟩
    | true =>
      rw [hb68] at HSE HSX
      simp only [if_true] at HSE HSX
      have HWO := hide HWO0.out
      have HWI := hide (HWI0.out _ hok1)
      generalize withoutL S0 [x.d] = S1 at *
      generalize joinL [S1, ofL ul] = S2 at *
      clear HWI0 HWO0
      gi_wp2_with (refine ⟨trivial, ?_⟩; gi_at_call 33; refine (CallsIn.inRound l (callsIn_wide.2 HSE.out)).mono ?_; rintro e w2 ⟨rfl, hb2⟩; have HB2 := hide hb2; have HK2 := hide (show KpB w.heap.size (w.heap.size + 1) 29 (.slice A len cap) W w2 ∧ KeepsFrom W0.heap.size W w2 from ⟨KpB.below hb2 hsW, (keeps_below hb2).from _⟩); have HBU2 := hide (show Boxed w2 w.heap.size 39 (.slice Au n0 cu) from (hb2.block _ hLb.lt).trans hLb); have HSU2 := hide (hLs.below hb2); have HBX2 := hide (bX.below hb2); obtain ⟨a0, a1, a2, a3, a4, a5, a6⟩ := CX (bX.below hb2); have u0 := HBU2.out.cell; have u1 := HBU2.out.frozen; clear hb2)
      (refine ⟨trivial, ?_⟩; gi_at_call 34; refine (CallsIn.inRound l (callsIn_wide.2 (HWO.out _ (HSU2.out.below (alloc1 w2 (.cells #[.int .i64 x.d] 3))) (some ⟨w2.heap.size, 0, none⟩) ((Sl.lit w2 3 .i64 #[.int .i64 x.d] [x.d] rfl).more (by simp))))).mono ?_; rintro e w3 ⟨r3, rfl, hr3, hb3⟩; obtain ⟨A3, c3', rfl, -, -, -, -⟩ := id hr3; have hb23 := (alloc1 w2 (.cells #[.int .i64 x.d] 3)).trans (hb3.mono (by simp)); have HE3 := hide (thr_end (A := A3) (c := c3') (s := S1) HK2.out hb23 (by have := HB2.out.size; omega) (by omega) HBU2.out hr3.ws); have HBX3 := hide ((HBX2.out.below hb23).other (g := w.heap.size) (j := 0) (v := .slice A3 S1.length c3') (by omega)); have y0 := (bxd_below HBU2.out hb23).cell; have y1 := (bxd_below HBU2.out hb23).frozen; have ylt := (bxd_below HBU2.out hb23).lt; obtain ⟨d0, d1, d2, d3, d4, d5, d6⟩ := CX HBX3.out; have e0 := HE3.out.2.2.1.cell; have e1 := HE3.out.2.2.1.frozen; clear hb23 hb3 hr3)
      gi_wp2
      gi_region_with_o (first
        | (refine ⟨trivial, ?_⟩; gi_at_call 35; refine (CallsIn.inRound l (callsIn_wide.2 (HWI.out _ _ HSU4.out A4 c4' HS4.out))).mono ?_; rintro e w5 ⟨r5, rfl, hr5, hb5⟩; obtain ⟨A5, c5', rfl, -, -, -, hf5⟩ := id hr5; have HF5 := hide hf5; clear hf5; have hb45 := HB4.out.trans (hb5.mono HB4.out.size); have HE5 := hide (thr_end (A := A5) (c := c5') (s := S2) (And.intro HE3.out.1 HE3.out.2.1) hb45 (by have := HB2.out.size; have := ((And.intro HE3.out.1 HE3.out.2.1)).1.1.size; omega) (by omega) (HE3.out.2.2.1) hr5.ws); have z0 := (bxd_below HE3.out.2.2.1 hb45).cell; have z1 := (bxd_below HE3.out.2.2.1 hb45).frozen; clear hb45 hb5 hr5)
        | (refine ⟨trivial, ?_⟩; gi_at_call 36; refine (CallsIn.inRound l (callsIn_wide.2 (HUS.out (w3.setCell ⟨w.heap.size, 0, none⟩ (.slice A3 S1.length c3')).drew (hB.trans HE3.out.1.1).drew))).mono ?_; rintro e w4 ⟨v4, rfl, ho4, hb4'⟩; have hb4 : Below (w3.setCell ⟨w.heap.size, 0, none⟩ (.slice A3 S1.length c3')).heap.size (w3.setCell ⟨w.heap.size, 0, none⟩ (.slice A3 S1.length c3')) w4 := ⟨hb4'.os, hb4'.tape, hb4'.output, hb4'.size, hb4'.block⟩; obtain ⟨A4, c4', rfl, hn4, hm4', hs4⟩ := ho4.sl; have HB4 := hide hb4; have HS4 := hide hs4; have HSU4 := hide ((HE3.out.2.2.2).below hb4); have v0 := (bxd_below HE3.out.2.2.1 hb4).cell; have v1 := (bxd_below HE3.out.2.2.1 hb4).frozen; clear hb4' hb4 ho4 hs4))
      all_goals gi_wp2
      all_goals (try go_bits)
      all_goals have HGS := hide (show w.heap.size ≤ (w3.setCell ⟨w.heap.size, 0, none⟩ (.slice A3 S1.length c3')).heap.size by have := HE3.out.1.1.size; omega)
      all_goals exact ⟨HE5.out.2.1, HE5.out.1, ⟨⟨⟨A5, c5', .inr (fun b o e => by have := HF5.out b o e; have := HB4.out.size; have := HGS.out; omega), by rw [HSQ.out, HSX.out]; exact HE5.out.2.2.1, by rw [HSQ.out, HSX.out]; exact HE5.out.2.2.2⟩, HE5.out.1.2 hS⟩, hB.trans HE5.out.1.1⟩⟩
  case done =>
    rintro D ys W hD hys ⟨⟨⟨Au, cu, hFr, hLb, hLs⟩, hS⟩, hB⟩ hK
    have hfin : (bkL ys).foldl (fun s y => insS y s) s = thrS ls s := by
      rw [hys, List.foldl_reverse]
      rfl
    rw [hfin] at hLb hLs
    obtain ⟨sf, hsf⟩ : ∃ sf, thrS ls s = sf := ⟨_, rfl⟩
    rw [hsf] at hLb hLs
    have HSF := hide hsf
    clear hfin hys hsf
    have cS := hLb.cell
    gi_wp2
    refine ⟨by simp, .inl ⟨_, _, rfl, run_takeDeferred hK, ?_⟩⟩
    have hbl := belowK_b (w := w) (Nat.le_refl _) W D _ (.deferred none) (by omega) hK rfl rfl
    refine ⟨_, results_tmp rfl _ _ _, Au, cu, by rw [HSF.out]; rfl, hFr, ?_, hB.trans hbl⟩
    rw [HSF.out]
    exact hLs.own (grownBy_putObj' W D (.deferred none)) (fun r e => by cases e; exact ⟨_, hK, rfl⟩)
  case stop =>
    rintro D c pre W _ _ h _
    exact h.elim
end Go.Proofs.YteoopilmdlhkhaaDoor
