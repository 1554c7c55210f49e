/- A law of the walk: the operations of one statement are walked in two parts, with a relation of frame and world between them. No condition. -/
import Derived.Test.YthbnbaikdcfbmaaGreatDoorPmNG
set_option linter.unusedSimpArgs false
set_option linter.unusedVariables false
set_option maxHeartbeats 8000000
set_option maxRecDepth 100000
namespace Go.Proofs.YthbnbaikdcfbmaaGreatDoor
open Go.RowKit
theorem jqq {P : Program} {o : Oper} {a : Act} {w : World} {K K' R : Act -> World -> Prop} {Q : Exit -> Act -> World -> Prop} (hk : ∀ a w, K a w -> K' a w) (h : o.wp P a w K (Exit.then R Q)) : o.wp P a w K' Q := by
 unfold Oper.wp at *
 generalize (execOp a.eval o).run P w = r at *
 cases r with
 | ok n w' =>
  cases n <;> simp only [Oper.upon] at h ⊢ <;>
   first
    | exact hk _ _ h
    | exact Calls.mono h (fun e w'' he => by cases e <;> first | exact hk _ _ he | exact he)
    | exact Rows.mono h (fun _ _ he => hk _ _ he)
 | halt x w' => cases x <;> simp only [Oper.upon] at h ⊢ <;> exact h
theorem jhr {P : Program} {ops : Array Oper} {Q : Exit -> Act -> World -> Prop} (R : Act -> World -> Prop) (l2 : List Oper) (hr : ∀ a w, R a w -> wpList P ops Q l2 a w) : ∀ (l1 : List Oper) (a : Act) (w : World), wpList P ops (Exit.then R Q) l1 a w -> wpList P ops Q (l1 ++ l2) a w
 | [], a, w, h => hr a w h
 | o :: l1, a, w, h => by
  have ih := jhr R l2 hr l1
  rw [List.cons_append]
  unfold wpList at h ⊢
  split at h
  ·rename_i hg
   rw [if_pos hg]
   rcases h with h | ⟨h1, h2⟩
   ·exact .inl (jqq ih h)
   ·exact .inr ⟨h1, h2⟩
  ·rename_i hg
   rw [if_neg hg]
   exact ih _ _ h
theorem jdr {P : Program} {ops : Array Oper} {Q : Exit -> Act -> World -> Prop} {l : List Oper} {a : Act} {w : World} (n : Nat) (R : Act -> World -> Prop) (h : wpList P ops (Exit.then R Q) (l.take n) a w) (hr : ∀ a w, R a w -> wpList P ops Q (l.drop n) a w) : wpList P ops Q l a w := by
 have := jhr R (l.drop n) hr (l.take n) a w h
 rwa [List.take_append_drop] at this
theorem hasP_two (op : Int) (c d : Nat) : hasP op [c, d] = (ja9 op c || ja9 op d) := by
 rw [Bool.eq_iff_iff]
 unfold hasP ja9
 simp only [List.any_eq_true, decide_eq_true_eq, Bool.or_eq_true, List.mem_cons, List.not_mem_nil, or_false]
 constructor
 ·rintro ⟨z, hz, rfl | rfl⟩
  ·exact .inl hz
  ·exact .inr hz
 ·rintro (h | h)
  ·exact ⟨c, h, .inl rfl⟩
  ·exact ⟨d, h, .inr rfl⟩
theorem only_eq (x : InsV) : jdw x = ((x.d == 0 || ja9 x.op 68) && ((x.a == 0 || ja9 x.op 65) && ((x.b == 0 || ja9 x.op 66) && ((x.n == 0 || (ja9 x.op 78 || ja9 x.op 110)) && ((x.m == 0 || ja9 x.op 77) && ((x.args.length : Int) == 0 || ja9 x.op 76)))))) := by
 have hl : (!decide (0 < x.args.length)) = ((x.args.length : Int) == 0) := by
  rw [Bool.eq_iff_iff]; simp
 unfold jdw jcc
 simp only [List.all_cons, List.all_nil, Bool.and_true, hasP_two, hl]
 simp [bne]
theorem jss (x : InsV) (A : Option Addr) (c : Nat) (w : World) :
  Calls Tryz.prog 71 #[.agg #[.int .i64 x.op, .int .i64 x.d, .int .i64 x.a, .int .i64 x.b, .int .i64 x.n, .int .i64 x.m, .slice A x.args.length c]] w fun e w' => e = .returned (.bool (jdw x)) /\ Below w.heap.size w w' := by
 rw [only_eq]
 have H68 := hide (fun W => (show Calls Tryz.prog 56 #[.int .i64 x.op, .int .u8 68] W fun e w' => e = .returned (.bool (ja9 x.op 68)) /\ W = w' from jbu x.op 68 W))
 have H65 := hide (fun W => (show Calls Tryz.prog 56 #[.int .i64 x.op, .int .u8 65] W fun e w' => e = .returned (.bool (ja9 x.op 65)) /\ W = w' from jbu x.op 65 W))
 have H66 := hide (fun W => (show Calls Tryz.prog 56 #[.int .i64 x.op, .int .u8 66] W fun e w' => e = .returned (.bool (ja9 x.op 66)) /\ W = w' from jbu x.op 66 W))
 have H78 := hide (fun W => (show Calls Tryz.prog 56 #[.int .i64 x.op, .int .u8 78] W fun e w' => e = .returned (.bool (ja9 x.op 78)) /\ W = w' from jbu x.op 78 W))
 have H110 := hide (fun W => (show Calls Tryz.prog 56 #[.int .i64 x.op, .int .u8 110] W fun e w' => e = .returned (.bool (ja9 x.op 110)) /\ W = w' from jbu x.op 110 W))
 have H77 := hide (fun W => (show Calls Tryz.prog 56 #[.int .i64 x.op, .int .u8 77] W fun e w' => e = .returned (.bool (ja9 x.op 77)) /\ W = w' from jbu x.op 77 W))
 have H76 := hide (fun W => (show Calls Tryz.prog 56 #[.int .i64 x.op, .int .u8 76] W fun e w' => e = .returned (.bool (ja9 x.op 76)) /\ W = w' from jbu x.op 76 W))
 generalize ja9 x.op 68 = b1 at *
 generalize ja9 x.op 65 = b2 at *
 generalize ja9 x.op 66 = b3 at *
 generalize ja9 x.op 78 = b4 at *
 generalize ja9 x.op 110 = b5 at *
 generalize ja9 x.op 77 = b6 at *
 generalize ja9 x.op 76 = b7 at *
 generalize x.args.length = la at *
 generalize x.op = xop, x.d = xd, x.a = xa, x.b = xb, x.n = xn, x.m = xm at *
 generalize hd0 : (xd == 0) = d0
 generalize ha0 : (xa == 0) = a0
 generalize hb0 : (xb == 0) = e0
 generalize hn0 : (xn == 0) = n0
 generalize hm0 : (xm == 0) = m0
 generalize hl0 : ((la : Int) == 0) = l0
 go_enter Tryz.func71, Tryz.ntmps71
 go_upto_region 1 with (fail)
 obtain ⟨w1, hw1⟩ := zr (w.alloc (.cells #[.int .i64 xop, .int .i64 xd, .int .i64 xa, .int .i64 xb, .int .i64 xn, .int .i64 xm, .slice A la c] 57))
 have HBX := zx1 hw1 rfl
 have HB1 := zb1 hw1
 have hl1 := HBX.out.lt
 obtain ⟨x0, x1, x2, x3, x4, x5, x6⟩ := SBoxR.of HBX.out
 rw [<- hw1]
 clear hw1
 refine wp_region_lit ?_
 dsimp only [List.append]
 refine jdr 9 (Met fun a' w' => w1 = w' /\ ∃ (u3 u4 u5 u6 u7 u8 u9 u10 : Value), a' = ⟨#[Value.agg #[.int .i64 xop, .int .i64 xd, .int .i64 xa, .int .i64 xb, .int .i64 xn, .int .i64 xm, .slice A la c], Value.pointer (some ⟨w.heap.size, 0, none⟩), Value.bool false, u3, u4, u5, u6, u7, u8, u9, u10, Value.bool (d0 || b1), undef, undef, undef, undef, undef, undef, undef, undef, undef, undef, undef, undef, undef, undef, undef, undef, undef, undef, undef, undef, undef, undef, undef, undef, undef, undef, undef, undef, undef, undef, undef, undef, undef, undef, undef, undef, undef, undef, undef, undef, undef, undef, undef, undef, undef, undef, undef, undef, undef, undef, undef, undef, undef, undef, undef], []⟩) ?_ ?_
 ·dsimp only [List.take]
  cases d0 <;> cases b1
  all_goals
   go_wp2_with (first
    | (go_at_call 56; (with_reducible refine (H68.out _).mono ?_); rintro e w' ⟨rfl, rfl⟩))
   exact Met.intro ⟨rfl, _, _, _, _, _, _, _, _, rfl⟩
 dsimp only [List.drop]
 rintro a' w' ⟨rfl, u3, u4, u5, u6, u7, u8, u9, u10, rfl⟩
 obtain ⟨c1, hc1⟩ := zr (d0 || b1)
 rw [<- hc1]
 have HC1 := hide hc1
 clear hc1
 refine jdr 10 (Met fun a' w' => w1 = w' /\ ∃ (u12 u13 u14 u15 u16 u17 u18 u19 u20 : Value), a' = ⟨#[Value.agg #[.int .i64 xop, .int .i64 xd, .int .i64 xa, .int .i64 xb, .int .i64 xn, .int .i64 xm, .slice A la c], Value.pointer (some ⟨w.heap.size, 0, none⟩), Value.bool false, u3, u4, u5, u6, u7, u8, u9, u10, Value.bool c1, u12, u13, u14, u15, u16, u17, u18, u19, u20, Value.bool (c1 && (a0 || b2)), undef, undef, undef, undef, undef, undef, undef, undef, undef, undef, undef, undef, undef, undef, undef, undef, undef, undef, undef, undef, undef, undef, undef, undef, undef, undef, undef, undef, undef, undef, undef, undef, undef, undef, undef, undef, undef, undef, undef, undef, undef, undef, undef, undef, undef], []⟩) ?_ ?_
 ·dsimp only [List.take]
  cases c1 <;> cases a0 <;> cases b2
  all_goals
   go_wp2_with (first
    | (go_at_call 56; (with_reducible refine (H65.out _).mono ?_); rintro e w' ⟨rfl, rfl⟩))
   exact Met.intro ⟨rfl, _, _, _, _, _, _, _, _, _, rfl⟩
 dsimp only [List.drop]
 rintro a' w' ⟨rfl, u12, u13, u14, u15, u16, u17, u18, u19, u20, rfl⟩
 obtain ⟨c2, hc2⟩ := zr (c1 && (a0 || b2))
 rw [<- hc2]
 have HC2 := hide hc2
 clear hc2
 refine jdr 10 (Met fun a' w' => w1 = w' /\ ∃ (u22 u23 u24 u25 u26 u27 u28 u29 u30 : Value), a' = ⟨#[Value.agg #[.int .i64 xop, .int .i64 xd, .int .i64 xa, .int .i64 xb, .int .i64 xn, .int .i64 xm, .slice A la c], Value.pointer (some ⟨w.heap.size, 0, none⟩), Value.bool false, u3, u4, u5, u6, u7, u8, u9, u10, Value.bool c1, u12, u13, u14, u15, u16, u17, u18, u19, u20, Value.bool c2, u22, u23, u24, u25, u26, u27, u28, u29, u30, Value.bool (c2 && (e0 || b3)), undef, undef, undef, undef, undef, undef, undef, undef, undef, undef, undef, undef, undef, undef, undef, undef, undef, undef, undef, undef, undef, undef, undef, undef, undef, undef, undef, undef, undef, undef, undef, undef, undef, undef, undef], []⟩) ?_ ?_
 ·dsimp only [List.take]
  cases c2 <;> cases e0 <;> cases b3
  all_goals
   go_wp2_with (first
    | (go_at_call 56; (with_reducible refine (H66.out _).mono ?_); rintro e w' ⟨rfl, rfl⟩))
   exact Met.intro ⟨rfl, _, _, _, _, _, _, _, _, _, rfl⟩
 dsimp only [List.drop]
 rintro a' w' ⟨rfl, u22, u23, u24, u25, u26, u27, u28, u29, u30, rfl⟩
 obtain ⟨c3, hc3⟩ := zr (c2 && (e0 || b3))
 rw [<- hc3]
 have HC3 := hide hc3
 clear hc3
 refine jdr 15 (Met fun a' w' => w1 = w' /\ ∃ (u32 u33 u34 u35 u36 u37 u38 u39 u40 u41 u42 u43 u44 u45 : Value), a' = ⟨#[Value.agg #[.int .i64 xop, .int .i64 xd, .int .i64 xa, .int .i64 xb, .int .i64 xn, .int .i64 xm, .slice A la c], Value.pointer (some ⟨w.heap.size, 0, none⟩), Value.bool false, u3, u4, u5, u6, u7, u8, u9, u10, Value.bool c1, u12, u13, u14, u15, u16, u17, u18, u19, u20, Value.bool c2, u22, u23, u24, u25, u26, u27, u28, u29, u30, Value.bool c3, u32, u33, u34, u35, u36, u37, u38, u39, u40, u41, u42, u43, u44, u45, Value.bool (c3 && (n0 || (b4 || b5))), undef, undef, undef, undef, undef, undef, undef, undef, undef, undef, undef, undef, undef, undef, undef, undef, undef, undef, undef, undef], []⟩) ?_ ?_
 ·dsimp only [List.take]
  cases c3 <;> cases n0 <;> cases b4 <;> cases b5
  all_goals
   go_wp2_with (first
    | (go_at_call 56; (with_reducible refine (H78.out _).mono ?_); rintro e w' ⟨rfl, rfl⟩)
    | (go_at_call 56; (with_reducible refine (H110.out _).mono ?_); rintro e w' ⟨rfl, rfl⟩))
   exact Met.intro ⟨rfl, _, _, _, _, _, _, _, _, _, _, _, _, _, _, rfl⟩
 dsimp only [List.drop]
 rintro a' w' ⟨rfl, u32, u33, u34, u35, u36, u37, u38, u39, u40, u41, u42, u43, u44, u45, rfl⟩
 obtain ⟨c4, hc4⟩ := zr (c3 && (n0 || (b4 || b5)))
 rw [<- hc4]
 have HC4 := hide hc4
 clear hc4
 refine jdr 10 (Met fun a' w' => w1 = w' /\ ∃ (u47 u48 u49 u50 u51 u52 u53 u54 u55 : Value), a' = ⟨#[Value.agg #[.int .i64 xop, .int .i64 xd, .int .i64 xa, .int .i64 xb, .int .i64 xn, .int .i64 xm, .slice A la c], Value.pointer (some ⟨w.heap.size, 0, none⟩), Value.bool false, u3, u4, u5, u6, u7, u8, u9, u10, Value.bool c1, u12, u13, u14, u15, u16, u17, u18, u19, u20, Value.bool c2, u22, u23, u24, u25, u26, u27, u28, u29, u30, Value.bool c3, u32, u33, u34, u35, u36, u37, u38, u39, u40, u41, u42, u43, u44, u45, Value.bool c4, u47, u48, u49, u50, u51, u52, u53, u54, u55, Value.bool (c4 && (m0 || b6)), undef, undef, undef, undef, undef, undef, undef, undef, undef, undef], []⟩) ?_ ?_
 ·dsimp only [List.take]
  cases c4 <;> cases m0 <;> cases b6
  all_goals
   go_wp2_with (first
    | (go_at_call 56; (with_reducible refine (H77.out _).mono ?_); rintro e w' ⟨rfl, rfl⟩))
   exact Met.intro ⟨rfl, _, _, _, _, _, _, _, _, _, rfl⟩
 dsimp only [List.drop]
 rintro a' w' ⟨rfl, u47, u48, u49, u50, u51, u52, u53, u54, u55, rfl⟩
 obtain ⟨c5, hc5⟩ := zr (c4 && (m0 || b6))
 rw [<- hc5]
 have HC5 := hide hc5
 clear hc5
 cases c5 <;> cases l0 <;> cases b7
 all_goals
  go_wp2_with (first
   | (go_at_call 56; (with_reducible refine (H76.out _).mono ?_); rintro e w' ⟨rfl, rfl⟩))
  go_ret
  exact ⟨ja1 (by have h1 := HC1.out; have h2 := HC2.out; have h3 := HC3.out; have h4 := HC4.out; have h5 := HC5.out; subst h1; subst h2; subst h3; subst h4; revert h5; generalize (d0 || b1) = q1; generalize (a0 || b2) = q2; generalize (e0 || b3) = q3; generalize (n0 || (b4 || b5)) = q4; generalize (m0 || b6) = q5; cases q1 <;> cases q2 <;> cases q3 <;> cases q4 <;> cases q5 <;> simp), HB1.out⟩
theorem numsR_at {p : List FunV} {x : InsV} {j : Int} (h : x.op = j) : jqt p x = (if j = 19 then jbk p x.n x.args.length else if j = 1 then inB (-2147483648) 2147483648 x.n else if j = 16 then inB (-8) 8 x.n else if j = 10 then inB 0 8 x.n && inB 0 8 x.m
 else if j = 11 \/ j = 12 \/ j = 13 \/ j = 14 \/ j = 15 then inB 0 7 x.n else true) := by subst h; rfl
theorem ins4_any (vp : Value) (p : List FunV) (k : Nat) (f : FunV) (x : InsV) (va : Value) (w : World) (B : Nat) (hB : B <= w.heap.size) (hp : FunsV w (· < B) vp p) (hf : p[k]? = some f) (hx : InsI w (· < B) va x) (hlen : x.args.length <= 17592186044000) :
  Calls Tryz.prog 47 #[.agg #[vp], .int .i64 (k : Int), .agg #[.int .i64 x.op, .int .i64 x.d, .int .i64 x.a, .int .i64 x.b, .int .i64 x.n, .int .i64 x.m, va]] w fun e w' => e = .returned (.bool (jcf p f x)) /\ Below w.heap.size w w' := by
 obtain ⟨q0, hq0, iz0, iz1, iz2⟩ := info_parts jc5
 have HI := hide hq0
 clear hq0
 have hkl : k < p.length := (List.getElem?_eq_some_iff.1 hf).1
 have KP := hide (fun (W : World) (hW : Below w.heap.size w W) => hp.keep (up hW hB) (fun _ h => h))
 obtain ⟨A, c, rfl, hc, hm⟩ := hp.open'
 have hR : ∀ z ∈ jls x, i64R z := fun z hz => by
  unfold jls at hz
  rcases List.mem_append.1 hz with h | h
  ·exact jpq hx.2 hx.1.range z h
  ·split at h
   ·simp at h; subst h; exact hx.2.2.1
   ·cases h
 have HR := hide hR
 have HU := hide (fun (W : World) (hW : Below w.heap.size w W) => jjm x va W B (by have := hW.size; omega) (hx.keep (up hW hB) (fun _ h => h)) hlen)
 obtain ⟨Aa, ca, rfl⟩ := hx.open'
 have HS := hide (fun W => jgm x Aa x.args.length ca W)
 have HN := hide (fun W => jqz x Aa x.args.length ca W)
 have HBr := hide (fun W => jss x Aa ca W)
 have HPt := hide (fun W => jhw x.op W)
 have hne : (jae x.op).isEmpty = false -> (!(jaf (jae x.op)).toList.isEmpty) = true := fun h => by
  have := jew (l := jae x.op) (by intro h0; rw [h0] at h; cases h)
  simpa using this
 have hem : (jae x.op).isEmpty = true -> jaf (jae x.op) = ⟨#[]⟩ := fun h => by
  have : jae x.op = [] := by simpa using h
  rw [this]; rfl
 obtain ⟨R, hRR⟩ := zl (jcf p f x)
 have HRR := hide (hRR.symm.trans (may_eq p f x))
 rw [hRR]
 have HUD := hide (show jls x = jas x ++ (if ja9 x.op 68 = true then [x.d] else []) from rfl)
 have hulen : (jas x).length <= 17592186044400 := by
  unfold jas
  simp only [List.length_append]
  have h1 : (if ja9 x.op 65 = true then [x.a] else []).length <= 1 := by split <;> simp
  have h2 : (if ja9 x.op 66 = true then [x.b] else []).length <= 1 := by split <;> simp
  have h3 : (if ja9 x.op 76 = true then x.args else []).length <= 17592186044000 := by split <;> simp_all
  omega
 have HNR := hide (fun (j : Int) (h : x.op = j) => numsR_at (p := p) h)
 obtain ⟨np, hnp⟩ := zl p.length
 have HNP := hide hnp
 rw [hnp] at KP hc hkl ⊢
 have hCal : ∀ z a : Int, jbk p z a = (inB 0 ((np : Int) - 1) z && decide ((p[z.toNat]?).map FunV.params = some a)) := fun z a => by unfold jbk; rw [hnp]
 have HCal := hide hCal
 generalize jaf (jae x.op) = t at *
 generalize (jae x.op).isEmpty = eb at *
 generalize jdw x = b2 at *
 generalize ja9 x.op 68 = hd at *
 generalize jas x = ul at *
 generalize jls x = us at *
 generalize jau x = nx at *
 generalize jqt p x = nr at *
 obtain ⟨la, hla⟩ := zl x.args.length
 rw [hla] at HU HS HN HBr HNR hlen ⊢
 have HF := hide hf
 have hxop := hx.2
 unfold InsR at hxop
 generalize x.op = xop, x.d = xd, x.a = xa, x.b = xb, x.n = xn, x.m = xm at *
 have hin : inB 0 ((np : Int) - 1) (k : Int) = true := inB4_iff.2 (by omega)
 have e3 : IntKind.i64.wrap ((np : Int) - 1) = (np : Int) - 1 := IntWalk.i64_in _ ⟨by omega, by omega⟩
 obtain ⟨lk, hlk⟩ := zl f.kinds.length
 obtain ⟨ls, hls⟩ := zl f.blocks.length
 have HIV := hide (show ∀ z, jbt f z = inB 0 ((lk : Int) - 1) z from fun z => by unfold jbt; rw [hlk])
 have HIB := hide (show ∀ z, jcg f z = inB 1 ((ls : Int) - 1) z from fun z => by unfold jcg; rw [hls])
 have HLK := hide hlk
 have HLS := hide hls
 clear hp hx hR hf hRR hnp hla hlk hls hCal
 cases eb with
 | true =>
  have ht := hem rfl
  subst ht
  have HF0 := hide (show R = false by rw [HRR.out]; rfl)
  clear hem hne
  go_enter Tryz.func47, Tryz.ntmps47
  go_wp2_with (first
   | (go_at_call 45; refine (ja6 _ _ _ _).mono ?_; rintro e w' ⟨rfl, rfl⟩)
   | (go_at_call 70; refine (HPt.out _).mono ?_; rintro e w' ⟨rfl, rfl⟩))
  go_ret
  exact ⟨ja1 HF0.out.symm, jbm w _ _⟩
 | false =>
  have htl := hne rfl
  have htn : (t.toList == []) = false := by simpa using htl
  clear hem hne
  go_enter Tryz.func47, Tryz.ntmps47
  go_upto_region 1 with (fail)
  obtain ⟨w1, hw1⟩ := zr ((w.alloc (.cells #[.slice A np c] 24)).alloc (.cells #[.int .i64 xop, .int .i64 xd, .int .i64 xa, .int .i64 xb, .int .i64 xn, .int .i64 xm, .slice Aa la ca] 57))
  obtain ⟨h2, hh2⟩ := zl (w.heap.size + 1)
  have HBP := zy2 hw1 rfl
  have HBX := hide (show Box w1 h2 #[.int .i64 xop, .int .i64 xd, .int .i64 xa, .int .i64 xb, .int .i64 xn, .int .i64 xm, .slice Aa la ca] 57 by
   have h := Box.new (w.alloc (.cells #[.slice A np c] 24)) #[.int .i64 xop, .int .i64 xd, .int .i64 xa, .int .i64 xb, .int .i64 xn, .int .i64 xm, .slice Aa la ca] 57
   rw [World.size_alloc, hh2] at h
   rw [hw1]; exact h)
  have HB1 := zb2 hw1
  have hl1 := HBP.out.lt
  have hl2 := HBX.out.lt
  rw [<- hw1, hh2]
  have hwh2 : w.heap.size < h2 := by omega
  clear hw1 hh2
  obtain ⟨x0, x1, x2, x3, x4, x5, x6⟩ := SBoxR.of HBX.out
  have p0 := (HBP.out.cell 0 (v := .slice A np c) rfl).1
  cases b2 with
  | false =>
   have HF0 := hide (show R = false by rw [HRR.out]; rfl)
   go_wp2_with (first
    | (go_at_call 71; refine (HBr.out w1).mono ?_; rintro e w2 ⟨rfl, hb2⟩; have HB2 := hide (HB1.out.trans (hb2.mono HB1.out.size)); clear hb2)
    | (go_at_call 70; refine (HPt.out _).mono ?_; rintro e w' ⟨rfl, rfl⟩)
    | (go_at_call 45; refine (ja6 _ _ _ _).mono ?_; rintro e w' ⟨rfl, rfl⟩))
   go_ret
   exact ⟨ja1 HF0.out.symm, HB2.out⟩
  | true =>
   go_upto_region 3 with (first
    | (go_at_call 71; refine (HBr.out w1).mono ?_; rintro e w2 ⟨rfl, hb2⟩; have HB2 := hide (HB1.out.trans (hb2.mono HB1.out.size)); have HX2 := hide (HBX.out.below hb2); have HP2 := hide (HBP.out.below hb2); clear hb2)
    | (go_at_call 70; refine (HPt.out _).mono ?_; rintro e w' ⟨rfl, rfl⟩)
    | (go_at_call 45; refine (ja6 _ _ _ _).mono ?_; rintro e w' ⟨rfl, rfl⟩))
   clear x0 x1 x2 x3 x4 x5 x6 p0
   have p0 := (HP2.out.cell 0 (v := .slice A np c) rfl).1
   have lp2 := HP2.out.lt
   obtain ⟨b, o, Ak, ck, Ab, cb, As, cs, rfl, hbb, ⟨e0, e1, e2, e4, e5⟩, hi⟩ := (KP.out w2 HB2.out).get HF.out
   have hbs : b < w2.heap.size := by have := HB2.out.size; omega
   have hlk64 : lk <= 9223372036854775807 := by obtain ⟨h, -⟩ := len_le hi.1; rw [HLK.out] at h; exact h
   have hls64 : ls <= 9223372036854775807 := by obtain ⟨A', c', heq, h1, h2⟩ := hi.2.2.1.open'; injection heq with _ _ h3; rw [HLS.out] at h1; omega
   rw [HLK.out] at e0
   rw [HLS.out] at e5
   obtain ⟨lb, hlb⟩ := zl f.base.length
   rw [hlb] at e1
   clear hi hlb
   obtain ⟨fp, hfp⟩ := zl f.params
   obtain ⟨fr, hfr⟩ := zl f.result
   rw [hfp] at e2
   rw [hfr] at e4
   clear hfp hfr
   go_upto_region 4 with (fail)
   obtain ⟨w3, hw3⟩ := zr (w2.alloc (.cells #[.slice Ak lk ck, .slice Ab lb cb, .int .i64 fp, .int .i64 fr, .slice As ls cs] 52))
   obtain ⟨h3, hh3⟩ := zl w2.heap.size
   have HX3 := hide (show Box w3 h2 #[.int .i64 xop, .int .i64 xd, .int .i64 xa, .int .i64 xb, .int .i64 xn, .int .i64 xm, .slice Aa la ca] 57 by rw [hw3]; exact HX2.out.alloc _)
   have HP3 := hide (show Box w3 w.heap.size #[.slice (some ⟨b, o, none⟩) np c] 24 by rw [hw3]; exact HP2.out.alloc _)
   have HF3 := zx1 hw3 hh3
   have HB3 := hide (show Below w.heap.size w w3 by rw [hw3]; exact HB2.out.alloc HB2.out.size _)
   rw [<- hw3, hh3]
   clear hw3 hh3 e0 e1 e2 e4 e5 hbs p0 lp2
   have lx3 := HX3.out.lt; have lf3 := HF3.out.lt; have lp3 := HP3.out.lt
   obtain ⟨x0, x1, x2, x3, x4, x5, x6⟩ := SBoxR.of HX3.out
   cases hd
   focus
    have HUE := hide (show us = ul by rw [HUD.out]; simp)
    go_upto_region 8 with (first
     | (go_at_call 57; refine (HS.out w4).mono ?_; rintro e wl ⟨rfl, hbl⟩; have HOL := hide (HO4.out.below hbl); have hzl := hbl.size; have HC := hide (HC4.out.trans (hbl.mono HC4.out.size)); clear hbl)
     | (go_at_call 31; refine (HU.out w3 HB3.out).mono ?_; rintro e w4 ⟨v4, rfl, ho4, hb4⟩; have HO4 := hide ho4; have HC4 := hide hb4; have y4 := SBoxR.of (HX3.out.below hb4); obtain ⟨y0, y1, y2, y3, y5, y6, y7⟩ := y4; have l4 := (HX3.out.below hb4).lt; clear ho4 hb4))
    have hOL : Ow wl w3.heap.size 3 .i64 v4 us := by rw [HUE.out]; exact HOL.out
    obtain ⟨vl, hvl⟩ := zr v4
    rw [<- hvl] at hOL ⊢
    have HOS := hide hOL
    clear hOL hvl x0 x1 x2 x3 x4 x5 x6
   rotate_left
   focus
    have HUE := hide (show us = ul ++ [xd] by rw [HUD.out]; simp)
    go_upto_region 8 with (first
     | (at_builtin; refine jbo _ rfl (.tmp 45) (.tmp 47) _ rfl w3.heap.size 3 .i64 q0 _ 8 Tryz.underlying32 HI.out iz0 iz1 iz2 rfl (by omega) _ ul rfl HO5.out xd rfl (by omega) (by have := HC5.out.size; omega) ?_; intro vl wl hol hbl; have HOL := hide hol; have HC := hide (HC5.out.trans hbl); clear hol hbl)
     | (go_at_call 57; refine (HS.out w4).mono ?_; rintro e w5 ⟨rfl, hb5⟩; have HO5 := hide (HO4.out.below hb5); have HC5 := hide (HC4.out.trans (hb5.mono HC4.out.size)); clear hb5)
     | (go_at_call 31; refine (HU.out w3 HB3.out).mono ?_; rintro e w4 ⟨v4, rfl, ho4, hb4⟩; have HO4 := hide ho4; have HC4 := hide hb4; have y4 := SBoxR.of (HX3.out.below hb4); obtain ⟨y0, y1, y2, y3, y5, y6, y7⟩ := y4; have l4 := (HX3.out.below hb4).lt; clear ho4 hb4))
    have HOS := hide (show Ow wl w3.heap.size 3 .i64 vl us by rw [HUE.out]; exact HOL.out)
    clear x0 x1 x2 x3 x4 x5 x6
   all_goals
    have HVL := hide (HOS.out.intsV HR.out)
    obtain ⟨Al, cl, rfl, hcl, hml⟩ := HVL.out.open'
    obtain ⟨nl, hnl⟩ := zl us.length
    have HNL := hide hnl
    rw [hnl] at HVL hcl ⊢
    have hzc := HC.out.size
    have HBL := hide (HB3.out.trans (HC.out.mono HB3.out.size))
    have HXL := hide (HX3.out.below HC.out)
    have HPL := hide (HP3.out.below HC.out)
    have HFL := hide (HF3.out.below HC.out)
    clear hnl
    go_wp2
    go_loopw [11] (fun i wr => ∃ j : Nat, j <= nl /\ i = .int .i64 j /\ Below wl.heap.size wl wr /\ Hid ((us.take j).all (jbt f) = true)) (fun i _ => nl - (intOf i).toNat)
    case atStart => exact ⟨0, Nat.zero_le _, rfl, Below.refl _ _, hide (by simp)⟩
    case round =>
     obtain ⟨j, hj, rfl, hbj, hall⟩ := hrel
     have hsj := hbj.size
     have HBJ := hide (HBL.out.trans (hbj.mono HBL.out.size))
     have c0 := ((HFL.out.below hbj).cell 0 (v := .slice Ak lk ck) rfl).1
     have l0 := (HFL.out.below hbj).lt
     by_cases hlj : j < nl
     ·obtain ⟨z, hz⟩ : ∃ z, us[j]? = some z := ⟨_, List.getElem?_eq_getElem (by have := HNL.out; omega)⟩
      obtain ⟨b8, o8, rfl, hb8, g8, -⟩ := (HVL.out.keep (up hbj (Nat.le_refl _)) (fun _ h => h)).get hz
      have hb8r : b8 < wr.heap.size := by omega
      have HZ := hide hz
      have e5 : IntKind.i64.wrap ((lk : Int) - 1) = (lk : Int) - 1 := IntWalk.i64_in _ ⟨by omega, by omega⟩
      clear hz
      by_cases hiv : inB 0 ((lk : Int) - 1) z = true
      ·have hnx := hide (jay hall.out HZ.out (by rw [HIV.out]; exact hiv))
       clear hall
       go_wp2
       go_quiet ((go_at_call 45; exact Calls.quiet_of_same (jam _ _ _ _)))
       go_wp2
       go_roundw
       case rel => exact ⟨j + 1, by omega, by go_num, ja0 hbj _, hnx⟩
       case measure => simp [intOf]; omega
      ·have hiv' : inB 0 ((lk : Int) - 1) z = false := Bool.eq_false_iff.2 hiv
       have HF0 := hide (show R = false by rw [HRR.out, jb1 HZ.out (by rw [HIV.out]; exact hiv')]; simp)
       clear hall hiv
       go_wp2
       go_quiet ((go_at_call 45; exact Calls.quiet_of_same (jam _ _ _ _)))
       go_wp2
       go_ret
       exact ⟨ja1 HF0.out.symm, ja0 HBJ.out _⟩
     ·have HUA := hide (show us.all (jbt f) = true by have h := hall.out; rwa [List.take_of_length_le (by have := HNL.out; omega)] at h)
      obtain ⟨wn, rfl⟩ := zr wr
      have HXN := hide (HXL.out.below hbj)
      have HPN := hide (HPL.out.below hbj)
      have HFN := hide (HFL.out.below hbj)
      have lx := HXN.out.lt
      obtain ⟨x0, x1, x2, x3, x4, x5, x6⟩ := SBoxR.of HXN.out
      clear hall hbj hsj c0 l0
      go_wp2_with (go_at_call 72; refine (HN.out wn).mono ?_; rintro e w8 ⟨A8, c8, rfl, hs8, hl8, hm8, hb8⟩; have hz8 := hb8.size; have HS8 := hide hs8; have HB8 := hide (HBJ.out.trans (hb8.mono HBJ.out.size)); have HX8 := hide (HXN.out.below hb8); have HP8 := hide (HPN.out.below hb8); have HF8 := hide (HFN.out.below hb8); clear hb8 hs8)
      clear x0 x1 x2 x3 x4 x5 x6 lx
      obtain ⟨nn, hnn⟩ := zl nx.length
      have HNN := hide hnn
      rw [hnn] at hl8 ⊢
      clear hnn
      go_loopw [13] (fun i wr => ∃ j : Nat, j <= nn /\ i = .int .i64 j /\ Below w8.heap.size w8 wr /\ Hid ((nx.take j).all (jcg f) = true)) (fun i _ => nn - (intOf i).toNat)
      case atStart => exact ⟨0, Nat.zero_le _, rfl, Below.refl _ _, hide (by simp)⟩
      case round =>
       obtain ⟨g, hg, rfl, hbg, hall⟩ := hrel
       have hsg := hbg.size
       have HBG := hide (HB8.out.trans (hbg.mono HB8.out.size))
       have c4 := ((HF8.out.below hbg).cell 4 (v := .slice As ls cs) rfl).1
       have l4 := (HF8.out.below hbg).lt
       by_cases hlg : g < nn
       ·obtain ⟨z, hz⟩ : ∃ z, nx[g]? = some z := ⟨_, List.getElem?_eq_getElem (by have := HNN.out; omega)⟩
        obtain ⟨b6, o6, rfl, hb6, hc6⟩ := HS8.out (by have := HNN.out; omega)
        have cj := (hbg.cell (p := ⟨b6, o6 + g, none⟩) hb6).trans (hc6 g (by have := HNN.out; omega))
        rw [List.getD_eq_getElem?_getD, hz] at cj
        simp only [Option.getD_some] at cj
        have hb6r : b6 < wr.heap.size := by omega
        have HZ := hide hz
        have e5 : IntKind.i64.wrap ((ls : Int) - 1) = (ls : Int) - 1 := IntWalk.i64_in _ ⟨by omega, by omega⟩
        clear hz hc6
        by_cases hiv : inB 1 ((ls : Int) - 1) z = true
        ·have hnx := hide (jay hall.out HZ.out (by rw [HIB.out]; exact hiv))
         clear hall
         go_wp2
         go_quiet ((go_at_call 45; exact Calls.quiet_of_same (jam _ _ _ _)))
         go_wp2
         go_roundw
         case rel => exact ⟨g + 1, by omega, by go_num, ja0 hbg _, hnx⟩
         case measure => simp [intOf]; omega
        ·have hiv' : inB 1 ((ls : Int) - 1) z = false := Bool.eq_false_iff.2 hiv
         have HF0 := hide (show R = false by rw [HRR.out, HUA.out, jb1 HZ.out (by rw [HIB.out]; exact hiv')]; simp)
         clear hall hiv
         go_wp2
         go_quiet ((go_at_call 45; exact Calls.quiet_of_same (jam _ _ _ _)))
         go_wp2
         go_ret
         exact ⟨ja1 HF0.out.symm, ja0 HBG.out _⟩
       ·have HNA := hide (show nx.all (jcg f) = true by have h := hall.out; rwa [List.take_of_length_le (by have := HNN.out; omega)] at h)
        have HRN := hide (show R = nr by rw [HRR.out, HUA.out, HNA.out]; simp)
        obtain ⟨wm, rfl⟩ := zr wr
        have HXM := hide (HX8.out.below hbg)
        have HPM := hide (HP8.out.below hbg)
        have lx := HXM.out.lt
        have lp := HPM.out.lt
        obtain ⟨x0, x1, x2, x3, x4, x5, x6⟩ := SBoxR.of HXM.out
        have p0 := (HPM.out.cell 0 (v := .slice (some ⟨b, o, none⟩) np c) rfl).1
        clear hall hbg hsg c4 l4
        by_cases h19 : xop = 19
        ·subst h19
         have hnr : nr = jbk p xn la := by have := HNR.out 19 rfl; simpa using this
         by_cases hci : inB 0 ((np : Int) - 1) xn = true
         ·have HW := hide (fun W => (show Calls Tryz.prog 45 #[.int .i64 xn, .int .i64 0, .int .i64 ((np : Int) - 1)] W fun e w' => e = .returned (.bool true) /\ w' = W by have h := jam xn 0 ((np : Int) - 1) W; rw [hci] at h; exact h))
          have hci2 := inB4_iff.1 hci
          obtain ⟨vn, hvn⟩ : ∃ v : Nat, xn = v := ⟨xn.toNat, by omega⟩
          subst hvn
          have hvn : vn < np := by omega
          obtain ⟨gg, hgg⟩ : ∃ y, p[vn]? = some y := ⟨_, List.getElem?_eq_getElem (by have := HNP.out; omega)⟩
          obtain ⟨b', o', Ak', ck', Ab', cb', As', cs', hA', hbb', ⟨-, -, e2, -, -⟩, -⟩ := (KP.out wm HBG.out).get hgg
          cases hA'
          have hbs : b < wm.heap.size := by have := HBG.out.size; omega
          have hcv := HCal.out (vn : Int) (la : Int)
          rw [hci, Int.toNat_natCast, hgg] at hcv
          simp only [Option.map_some, Bool.true_and, Option.some.injEq] at hcv
          have hi0 : (0 : Int) <= (vn : Int) := by omega
          have hi1 : (vn : Int) < (np : Int) := by omega
          by_cases hpa : gg.params = (la : Int)
          ·have hq : ((la : Int) == gg.params) = true := by simp [hpa]
           have HF0 := hide (show R = true by rw [HRN.out, hnr, hcv]; simpa using hpa)
           clear hgg hnr hcv hci2 hpa hci
           generalize gg.params = gp at *
           go_wp2_with fail
           go_quiet ((go_at_call 45; exact Calls.quiet_of_same (HW.out _)))
           go_wp2
           go_ret
           exact ⟨ja1 HF0.out.symm, ja0 HBG.out _⟩
          ·have hq : ((la : Int) == gg.params) = false := by simp; omega
           have HF0 := hide (show R = false by rw [HRN.out, hnr, hcv]; simpa using hpa)
           clear hgg hnr hcv hci2 hpa hci
           generalize gg.params = gp at *
           go_wp2_with fail
           go_quiet ((go_at_call 45; exact Calls.quiet_of_same (HW.out _)))
           go_wp2
           go_ret
           exact ⟨ja1 HF0.out.symm, ja0 HBG.out _⟩
         ·have hci' : inB 0 ((np : Int) - 1) xn = false := Bool.eq_false_iff.2 hci
          have HW := hide (fun W => (show Calls Tryz.prog 45 #[.int .i64 xn, .int .i64 0, .int .i64 ((np : Int) - 1)] W fun e w' => e = .returned (.bool false) /\ w' = W by have h := jam xn 0 ((np : Int) - 1) W; rw [hci'] at h; exact h))
          have HF0 := hide (show R = false by rw [HRN.out, hnr, HCal.out, hci']; rfl)
          clear hnr hci hci'
          go_wp2_with fail
          go_quiet ((go_at_call 45; exact Calls.quiet_of_same (HW.out _)))
          go_wp2
          go_ret
          exact ⟨ja1 HF0.out.symm, ja0 HBG.out _⟩
        by_cases h1 : xop = 1
        ·subst h1
         have HF0 := hide (show R = inB (-2147483648) 2147483648 xn by rw [HRN.out]; have := HNR.out 1 rfl; simpa using this)
         clear h19
         go_wp2_with (go_at_call 45; refine (ja6 _ _ _ _).mono ?_; rintro e w' ⟨rfl, rfl⟩)
         go_ret
         exact ⟨ja1 HF0.out.symm, HBG.out⟩
        by_cases h16 : xop = 16
        ·subst h16
         have HF0 := hide (show R = inB (-8) 8 xn by rw [HRN.out]; have := HNR.out 16 rfl; simpa using this)
         clear h19 h1
         go_wp2_with (go_at_call 45; refine (ja6 _ _ _ _).mono ?_; rintro e w' ⟨rfl, rfl⟩)
         go_ret
         exact ⟨ja1 HF0.out.symm, HBG.out⟩
        by_cases h10 : xop = 10
        ·subst h10
         have HF0 := hide (show R = (inB 0 8 xn && inB 0 8 xm) by rw [HRN.out]; have := HNR.out 10 rfl; simpa using this)
         clear h19 h1 h16
         by_cases hb1 : inB 0 8 xn = true
         ·have HF1 := hide (show R = inB 0 8 xm by rw [HF0.out, hb1]; rfl)
          go_wp2_with (go_at_call 45; refine (ja6 _ _ _ _).mono ?_; rintro e w' ⟨rfl, rfl⟩)
          go_ret
          exact ⟨ja1 HF1.out.symm, HBG.out⟩
         ·have hb1' : inB 0 8 xn = false := Bool.eq_false_iff.2 hb1
          have HF1 := hide (show R = false by rw [HF0.out, hb1']; rfl)
          clear hb1
          go_wp2_with (go_at_call 45; refine (ja6 _ _ _ _).mono ?_; rintro e w' ⟨rfl, rfl⟩)
          go_ret
          exact ⟨ja1 HF1.out.symm, HBG.out⟩
        by_cases h15 : xop = 11 \/ xop = 12 \/ xop = 13 \/ xop = 14 \/ xop = 15
        ·have HF0 := hide (show R = inB 0 7 xn by rw [HRN.out]; have := HNR.out xop rfl; rw [if_neg h19, if_neg h1, if_neg h16, if_neg h10, if_pos h15] at this; exact this)
         clear h19 h1 h16 h10
         rcases h15 with rfl | rfl | rfl | rfl | rfl
         all_goals
          go_wp2_with (go_at_call 45; refine (ja6 _ _ _ _).mono ?_; rintro e w' ⟨rfl, rfl⟩)
          go_ret
          exact ⟨ja1 HF0.out.symm, HBG.out⟩
        have HF0 := hide (show R = true by rw [HRN.out]; have := HNR.out xop rfl; rw [if_neg h19, if_neg h1, if_neg h16, if_neg h10, if_neg h15] at this; exact this)
        have g1 : (xop == 19) = false := by simpa using h19
        have g2 : (xop == 1) = false := by simpa using h1
        have g3 : (xop == 16) = false := by simpa using h16
        have g4 : (xop == 10) = false := by simpa using h10
        have g5 : (xop == 11) = false := by simp; omega
        have g6 : (xop == 12) = false := by simp; omega
        have g7 : (xop == 13) = false := by simp; omega
        have g8 : (xop == 14) = false := by simp; omega
        have g9 : (xop == 15) = false := by simp; omega
        clear h19 h1 h16 h10 h15
        go_wp2
        go_ret
        exact ⟨ja1 HF0.out.symm, HBG.out⟩
theorem jfi {a b : Nat} (h : a = b) : Ending.returned (.int .i64 (a : Int)) = .returned (.int .i64 (b : Int)) := by rw [h]
theorem jp4 (vp : Value) (p : List FunV) (w : World) (B : Nat) (hB : B <= w.heap.size) (hp : FunsV w (· < B) vp p) (hfew : jaz p) :
  Calls Tryz.prog 27 #[.agg #[vp]] w fun e w' => e = .returned (.int .i64 (jef p : Nat)) /\ Below w.heap.size w w' := by
 have kp := hide (fun (W : World) (hW : Below w.heap.size w W) => hp.keep (up hW hB) (fun _ h => h))
 have HIN := hide (fun (W : World) (hW : Below w.heap.size w W) (k : Nat) (f : FunV) (x : InsV) (va : Value) (hf : p[k]? = some f) (hx : InsI W (· < B) va x) (hl : x.args.length <= 1099511627000) => ins4_any vp p k f x va W B (by have := hW.size; omega) (hp.keep (up hW hB) (fun _ h => h)) hf hx (by omega))
 obtain ⟨A, c, rfl, hc, hm⟩ := hp.open'
 have HBAD := hide (fun h : jad p = false => (show jef p = 5 by unfold jef; rw [h]; rfl))
 have HGOOD := hide (fun h : jad p = true => (show jef p = 0 by unfold jef; rw [h]; rfl))
 generalize jef p = R at *
 obtain ⟨n, hn⟩ := zl p.length
 rw [hn] at hc kp HIN ⊢
 have HN := hide hn
 have HFEW := hide hfew
 have HW := hide (fun W => ja6 (n : Int) 1 8 W)
 clear hn hp hfew
 go_enter Tryz.func27, Tryz.ntmps27
 go_upto_region 1 with (fail)
 obtain ⟨w1, hw1⟩ := zr (w.alloc (.cells #[.slice A n c] 24))
 have HXP := zx1 hw1 rfl
 have HB1 := zb1 hw1
 have l1 := HXP.out.lt
 have x0 := (HXP.out.cell 0 (v := .slice A n c) rfl).1
 rw [<- hw1]
 clear hw1
 by_cases hin : inB 1 8 (n : Int) = true
 case neg =>
  have hin' := Bool.eq_false_iff.2 hin
  rw [hin'] at HW
  have HR := hide (HBAD.out (by unfold jad; rw [HN.out, hin']; rfl))
  clear hin hin'
  go_wp2_with (go_at_call 45; refine (HW.out _).mono ?_; rintro e w' ⟨rfl, rfl⟩)
  go_ret
  exact ⟨jfi HR.out.symm, HB1.out⟩
 rw [hin] at HW
 obtain ⟨hn1, hn8⟩ : 1 <= n /\ n <= 8 := by have := inB4_iff.1 hin; omega
 obtain ⟨f0, hf0⟩ : ∃ f, p[0]? = some f := ⟨_, List.getElem?_eq_getElem (by have := HN.out; omega)⟩
 have hbg : jfu p = jej f0 := by unfold jfu; rw [hf0]
 have HPB := hide (show jad p = (jej f0 && p.all (jco p)) by unfold jad; rw [HN.out, hin, hbg]; rfl)
 clear hin hbg
 obtain ⟨b, o, Ak, ck, Ab, cb, As, cs, hA, hbb, ⟨e0, e1, e2, e3, e4⟩, -⟩ := (kp.out w1 HB1.out).get hf0
 cases hA
 rw [Nat.zero_mul, Nat.add_zero] at e2 e3
 have hbs : b < w1.heap.size := by omega
 clear e0 e1 e4 hf0
 have hn0 : 0 < n := by omega
 have hn0i : (0 : Int) < (n : Int) := by omega
 by_cases hfp : f0.params = 0
 case neg =>
  have hq : (f0.params != 0) = true := by simpa using hfp
  have HR := hide (HBAD.out (by rw [HPB.out]; unfold jej; simp [hfp]))
  clear hfp
  generalize f0.params = fp at *
  go_wp2_with (go_at_call 45; refine (HW.out _).mono ?_; rintro e w' ⟨rfl, rfl⟩)
  go_ret
  exact ⟨jfi HR.out.symm, HB1.out⟩
 by_cases hfr : f0.result = 0
 case neg =>
  have hq : (f0.result != 0) = true := by simpa using hfr
  have HR := hide (HBAD.out (by rw [HPB.out]; unfold jej; simp [hfr]))
  rw [hfp] at e2
  clear hfr hfp
  generalize f0.result = fr at *
  go_wp2_with (go_at_call 45; refine (HW.out _).mono ?_; rintro e w' ⟨rfl, rfl⟩)
  go_ret
  exact ⟨jfi HR.out.symm, HB1.out⟩
 have HPA := hide (show jad p = p.all (jco p) by rw [HPB.out]; unfold jej; rw [hfp, hfr]; rfl)
 rw [hfp] at e2
 rw [hfr] at e3
 clear hfp hfr HPB
 go_wp2_with (go_at_call 45; refine (HW.out _).mono ?_; rintro e w' ⟨rfl, rfl⟩)
 clear e2 e3 hbs HW
 go_loopw [3] (fun i wr => ∃ k : Nat, k <= n /\ i = .int .i64 k /\ Below w1.heap.size w1 wr /\ Hid ((p.take k).all (jco p) = true)) (fun i _ => n - (intOf i).toNat)
 case atStart => exact ⟨0, Nat.zero_le _, rfl, Below.refl _ _, hide (by simp)⟩
 case round =>
  obtain ⟨k, hk, rfl, hb, hall⟩ := hrel
  obtain ⟨wo, rfl⟩ := zr wr
  have hsz := hb.size
  have HBEL := hide (HB1.out.trans (hb.mono HB1.out.size))
  have HXO := hide (HXP.out.below hb)
  have xp := (HXO.out.cell 0 (v := .slice (some ⟨b, o, none⟩) n c) rfl).1
  have HBW := hide hb
  clear hb x0
  by_cases hlt : k < n
  case neg =>
   have HR := hide (HGOOD.out (by rw [HPA.out]; exact jbx hall.out HN.out (by omega)))
   go_wp2
   go_ret
   exact ⟨jfi HR.out.symm, HBEL.out⟩
  obtain ⟨f, hf⟩ : ∃ f, p[k]? = some f := ⟨_, List.getElem?_eq_getElem (by have := HN.out; omega)⟩
  obtain ⟨b0, o0, Ak, ck, Ab, cb, As, cs, hA, hbb, ⟨e0, e1, e2, e3, e4⟩, hi⟩ := (kp.out wo HBEL.out).get hf
  cases hA
  have hbs : b < wo.heap.size := by omega
  have HF := hide hf
  have HAF := hide (HFEW.out f (List.mem_of_getElem? hf))
  have HBK := hide (fun (W : World) (hW : Below w.heap.size w W) => (show BlksV W (· < B) (.slice As f.blocks.length cs) f.blocks from hi.2.2.1.keep (fun bb oo hbb => by
   have q1 := hW.cell (p := ⟨bb, oo, none⟩) (by show bb < _; omega)
   have q2 := HBEL.out.cell (p := ⟨bb, oo, none⟩) (by show bb < _; omega)
   rw [q1, q2]) (fun _ h => h)))
  have hFn := fun (W : World) (hW : Below w.heap.size w W) => js6 (.slice Ak f.kinds.length ck) (.slice Ab f.base.length cb) (.slice As f.blocks.length cs) f W B (by have := hW.size; omega) (hi.keep (w := wo) (S := (· < B)) (fun bb oo hbb => by
   have q1 := hW.cell (p := ⟨bb, oo, none⟩) (by show bb < _; omega)
   have q2 := HBEL.out.cell (p := ⟨bb, oo, none⟩) (by show bb < _; omega)
   rw [q1, q2]) (fun _ h => h))
  have HFn := hide hFn
  obtain ⟨fb, hfb⟩ := zl (jd9 f)
  rw [hfb] at HFn
  have HFB := hide hfb
  obtain ⟨lk, hlk⟩ := zl f.kinds.length
  obtain ⟨lb, hlb⟩ := zl f.base.length
  obtain ⟨ls, hls⟩ := zl f.blocks.length
  obtain ⟨fp, hfp⟩ := zl f.params
  obtain ⟨fr, hfr⟩ := zl f.result
  rw [hlk] at e0 HFn
  rw [hlb] at e1 HFn
  rw [hls] at e4 HFn HBK
  rw [hfp] at e2 HFn
  rw [hfr] at e3 HFn
  have HLS := hide hls
  clear hi hf hFn hfb hlk hlb hls hfp hfr
  go_upto_region 7 with (fail)
  obtain ⟨w5, hw5⟩ := zr (wo.alloc (.cells #[.slice Ak lk ck, .slice Ab lb cb, .int .i64 fp, .int .i64 fr, .slice As ls cs] 52))
  obtain ⟨h5, hh5⟩ := zl wo.heap.size
  have HX5 := zx1 hw5 hh5
  have HP5 := hide (show Box w5 w.heap.size #[.slice (some ⟨b, o, none⟩) n c] 24 by rw [hw5]; exact HXO.out.alloc _)
  have HB5 := hide (show Below w.heap.size w w5 by rw [hw5]; exact HBEL.out.alloc (by omega) _)
  have HC5 := hide (show Below w1.heap.size w1 w5 by rw [hw5]; exact HBW.out.alloc hsz _)
  rw [<- hw5, hh5]
  clear hw5 hh5 e0 e1 e2 e3 e4 hbs xp
  have c0 := (HX5.out.cell 0 (v := .slice Ak lk ck) rfl).1
  have c1 := (HX5.out.cell 1 (v := .slice Ab lb cb) rfl).1
  have c2 := (HX5.out.cell 2 (v := .int .i64 fp) rfl).1
  have c3 := (HX5.out.cell 3 (v := .int .i64 fr) rfl).1
  have c4 := (HX5.out.cell 4 (v := .slice As ls cs) rfl).1
  have l5 := HX5.out.lt
  cases fb with
  | false =>
   have HR := hide (HBAD.out (by rw [HPA.out]; exact jb1 HF.out (by unfold jco; rw [HFB.out]; rfl)))
   go_wp2_with (go_at_call 46; refine (HFn.out _ HB5.out).mono ?_; rintro e w6 ⟨rfl, hb6⟩)
   go_ret
   exact ⟨jfi HR.out.symm, HB5.out.trans (hb6.mono HB5.out.size)⟩
  | true =>
   have hls40 : ls <= 40 := by have h := inB4_iff.1 (jj9 HFB.out).2.2.2.2.1; rw [HLS.out] at h; omega
   have HOK := hide (show jco p f = f.blocks.all (fun b => b.all (jcf p f)) by unfold jco; rw [HFB.out]; rfl)
   go_wp2_with (go_at_call 46; refine (HFn.out _ HB5.out).mono ?_; rintro e w6 ⟨rfl, hb6⟩; have hz6 := hb6.size; have HB6 := hide (HB5.out.trans (hb6.mono HB5.out.size)); have HC6 := hide (HC5.out.trans (hb6.mono HC5.out.size)); have HX6 := hide (HX5.out.below hb6); have HP6 := hide (HP5.out.below hb6); clear hb6)
   clear c0 c1 c2 c3 c4
   go_loopw [5] (fun i wr => ∃ j : Nat, j <= ls /\ i = .int .i64 j /\ Below w6.heap.size w6 wr /\ Hid ((f.blocks.take j).all (fun b => b.all (jcf p f)) = true)) (fun i _ => ls - (intOf i).toNat)
   case atStart => exact ⟨0, Nat.zero_le _, rfl, Below.refl _ _, hide (by simp)⟩
   case round =>
    obtain ⟨j, hj, rfl, hbj, hallj⟩ := hrel
    obtain ⟨wp, rfl⟩ := zr wr
    have hsj := hbj.size
    have HBJ := hide (HB6.out.trans (hbj.mono HB6.out.size))
    have HCJ := hide (HC6.out.trans (hbj.mono HC6.out.size))
    have HXJ := hide (HX6.out.below hbj)
    have HPJ := hide (HP6.out.below hbj)
    have HBJ6 := hide hbj
    have c4 := (HXJ.out.cell 4 (v := .slice As ls cs) rfl).1
    have lj := HXJ.out.lt
    clear hbj
    by_cases hlj : j < ls
    case neg =>
     have hn := hide (jay hall.out HF.out (by rw [HOK.out]; exact jbx hallj.out HLS.out (by omega)))
     go_wp2
     go_roundw
     case rel => exact ⟨k + 1, by omega, by go_num, HCJ.out, hn⟩
     case measure => simp [intOf]; omega
    obtain ⟨x, hx⟩ : ∃ x, f.blocks[j]? = some x := ⟨_, List.getElem?_eq_getElem (by have := HLS.out; omega)⟩
    obtain ⟨b1, o1, A1, c1, hA1, hbb1, g0, hx1⟩ := (HBK.out wp HBJ.out).get hx
    have HXX := hide hx
    have HIS := hide (fun (W : World) (hW : Below wp.heap.size wp W) => hx1.keep (up hW (by have := HBJ.out.size; omega)) (fun _ h => h))
    obtain ⟨m, hm'⟩ := zl x.length
    rw [hm'] at g0 HIS
    have HMM := hide hm'
    have HXF := hide (HAF.out x (List.mem_of_getElem? hx))
    have hbs1 : b1 < wp.heap.size := by have := HBJ.out.size; omega
    subst hA1
    have hji : (0 : Int) <= (j : Int) := by omega
    have hjl : (j : Int) < (ls : Int) := by omega
    obtain ⟨A1', c1', heq1, hm1, hm2⟩ := hx1.open'
    injection heq1 with hA1 _ hcs1
    subst hA1
    subst hcs1
    rw [hm'] at hm1
    clear hx hx1 hm'
    go_wp2
    go_loopw [6] (fun i wr => ∃ q : Nat, q <= m /\ i = .int .i64 q /\ Below wp.heap.size wp wr /\ Hid ((x.take q).all (jcf p f) = true)) (fun i _ => m - (intOf i).toNat)
    case atStart => exact ⟨0, Nat.zero_le _, rfl, Below.refl _ _, hide (by simp)⟩
    case round =>
     obtain ⟨q, hq, rfl, hbq, hallq⟩ := hrel
     obtain ⟨ws, rfl⟩ := zr wr
     have hsq := hbq.size
     have HBQ := hide (HBJ.out.trans (hbq.mono HBJ.out.size))
     have HXQ := hide (HXJ.out.below hbq)
     have HPQ := hide (HPJ.out.below hbq)
     have HBQJ := hide hbq
     have d4 := (HXQ.out.cell 4 (v := .slice (some ⟨b1, o1, none⟩) ls cs) rfl).1
     have lq := HXQ.out.lt
     have k0 := (hbq.cell (p := ⟨b1, o1 + j, none⟩) hbs1).trans g0
     have hbs1q : b1 < ws.heap.size := by omega
     clear hbq c4 g0
     by_cases hlq : q < m
     case neg =>
      have hn := hide (jay hallj.out HXX.out (jbx hallq.out HMM.out (by omega)))
      go_wp2
      go_roundw
      case rel => exact ⟨j + 1, by omega, by go_num, HBJ6.out.trans (HBQJ.out.mono hsj), hn⟩
      case measure => simp [intOf]; omega
     obtain ⟨u, hu⟩ : ∃ u, x[q]? = some u := ⟨_, List.getElem?_eq_getElem (by have := HMM.out; omega)⟩
     obtain ⟨b2, o2, A2, c2, hA2, hbb2, ⟨i0, i1, i2, i3, i4, i5, i6⟩, hui⟩ := (HIS.out ws HBQJ.out).get hu
     subst hA2
     have hbs2 : b2 < ws.heap.size := by have := HBQ.out.size; omega
     have HU := hide hu
     have hMu := fun (W : World) (hW : Below ws.heap.size ws W) => HIN.out W (HBQ.out.trans (hW.mono HBQ.out.size)) k f u _ HF.out (hui.keep (up hW (by have := HBQ.out.size; omega)) (fun _ h => h)) (HXF.out u (List.mem_of_getElem? hu))
     have HMU := hide hMu
     obtain ⟨ub, hub⟩ := zl (jcf p f u)
     rw [hub] at HMU
     have HUB := hide hub
     have p0 := (HPQ.out.cell 0 (v := .slice (some ⟨b, o, none⟩) n c) rfl).1
     have lp := HPQ.out.lt
     generalize u.args.length = la at *
     generalize u.op = xop, u.d = xd, u.a = xa, u.b = xb, u.n = xn, u.m = xm at *
     have hqi : (0 : Int) <= (q : Int) := by omega
     have hql : (q : Int) < (m : Int) := by omega
     clear hu hui hMu hub
     go_wp2_with fail
     go_still_tail 11, (by kernel_rfl)
     change wpList _ _ _ _ _ ws.drew
     cases ub with
     | false =>
      have HR := hide (HBAD.out (by rw [HPA.out]; exact jb1 HF.out (by rw [HOK.out]; exact jb1 (p := fun b : List InsV => b.all (jcf p f)) HXX.out (jb1 HU.out HUB.out))))
      go_wp2_with (go_at_call 47; refine (HMU.out _ ((Below.refl _ _).drew)).mono ?_; rintro e w9 ⟨rfl, hb9⟩)
      go_ret
      exact ⟨jfi HR.out.symm, HBQ.out.drew.trans (hb9.mono HBQ.out.size)⟩
     | true =>
      have hn := hide (jay hallq.out HU.out HUB.out)
      go_wp2_with (go_at_call 47; refine (HMU.out _ ((Below.refl _ _).drew)).mono ?_; rintro e w9 ⟨rfl, hb9⟩)
      go_roundw
      case rel => exact ⟨q + 1, by omega, by go_num, HBQJ.out.drew.trans (hb9.mono hsq), hn⟩
      case measure => simp [intOf]; omega
end Go.Proofs.YthbnbaikdcfbmaaGreatDoor
