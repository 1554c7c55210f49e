/- The contract of the reference's bare of layer 4. No condition. -/
import Derived.Test.YtkpikgakphdjjaaTA
import Derived.Test.YtkpikgakphdjjaaWCut
set_option linter.unusedSimpArgs false
set_option linter.unusedVariables false
namespace Go.Proofs.Ytkpikgakphdjjaa
open Go.RowKit

theorem hasP_two (op : Int) (c d : Nat) : hasP op [c, d] = (hasB4 op c || hasB4 op d) := by
  rw [Bool.eq_iff_iff]
  unfold hasP hasB4
  simp only [List.any_eq_true, decide_eq_true_eq, Bool.or_eq_true, List.mem_cons, List.not_mem_nil, or_false]
  constructor
  · rintro ⟨z, hz, rfl | rfl⟩
    · exact .inl hz
    · exact .inr hz
  · rintro (h | h)
    · exact ⟨c, h, .inl rfl⟩
    · exact ⟨d, h, .inr rfl⟩
theorem only_eq (x : InsV) : onlyB4 x = ((x.d == 0 || hasB4 x.op 68) && ((x.a == 0 || hasB4 x.op 65) && ((x.b == 0 || hasB4 x.op 66) && ((x.n == 0 || (hasB4 x.op 78 || hasB4 x.op 110)) && ((x.m == 0 || hasB4 x.op 77) && ((x.args.length : Int) == 0 || hasB4 x.op 76)))))) := by
  have hl : (!decide (0 < x.args.length)) = ((x.args.length : Int) == 0) := by
    rw [Bool.eq_iff_iff]; simp
  unfold onlyB4 checksL
  simp only [List.all_cons, List.all_nil, Bool.and_true, hasP_two, hl]
  simp [bne]
set_option maxHeartbeats 2000000 in
set_option maxRecDepth 100000 in
theorem bare4_any (x : InsV) (A : Option Addr) (c : Nat) (w : World) :
    Calls Try.prog 60 #[.agg #[.int .i64 x.op, .int .i64 x.d, .int .i64 x.a, .int .i64 x.b, .int .i64 x.n, .int .i64 x.m, .slice A x.args.length c]] w fun e w' => e = .returned (.bool (onlyB4 x)) ∧ Below w.heap.size w w' := by
  rw [only_eq]
  have H68 := hide (fun W => (show Calls Try.prog 78 #[.int .i64 x.op, .int .u8 68] W fun e w' => e = .returned (.bool (hasB4 x.op 68)) ∧ W = w' from has4_any x.op 68 W))
  have H65 := hide (fun W => (show Calls Try.prog 78 #[.int .i64 x.op, .int .u8 65] W fun e w' => e = .returned (.bool (hasB4 x.op 65)) ∧ W = w' from has4_any x.op 65 W))
  have H66 := hide (fun W => (show Calls Try.prog 78 #[.int .i64 x.op, .int .u8 66] W fun e w' => e = .returned (.bool (hasB4 x.op 66)) ∧ W = w' from has4_any x.op 66 W))
  have H78 := hide (fun W => (show Calls Try.prog 78 #[.int .i64 x.op, .int .u8 78] W fun e w' => e = .returned (.bool (hasB4 x.op 78)) ∧ W = w' from has4_any x.op 78 W))
  have H110 := hide (fun W => (show Calls Try.prog 78 #[.int .i64 x.op, .int .u8 110] W fun e w' => e = .returned (.bool (hasB4 x.op 110)) ∧ W = w' from has4_any x.op 110 W))
  have H77 := hide (fun W => (show Calls Try.prog 78 #[.int .i64 x.op, .int .u8 77] W fun e w' => e = .returned (.bool (hasB4 x.op 77)) ∧ W = w' from has4_any x.op 77 W))
  have H76 := hide (fun W => (show Calls Try.prog 78 #[.int .i64 x.op, .int .u8 76] W fun e w' => e = .returned (.bool (hasB4 x.op 76)) ∧ W = w' from has4_any x.op 76 W))
  generalize hasB4 x.op 68 = b1 at *
  generalize hasB4 x.op 65 = b2 at *
  generalize hasB4 x.op 66 = b3 at *
  generalize hasB4 x.op 78 = b4 at *
  generalize hasB4 x.op 110 = b5 at *
  generalize hasB4 x.op 77 = b6 at *
  generalize hasB4 x.op 76 = b7 at *
  generalize x.args.length = la at *
  generalize x.op = xop, x.d = xd, x.a = xa, x.b = xb, x.n = xn, x.m = xm at *
  generalize hd0 : (xd == 0) = d0
  generalize ha0 : (xa == 0) = a0
  generalize hb0 : (xb == 0) = e0
  generalize hn0 : (xn == 0) = n0
  generalize hm0 : (xm == 0) = m0
  generalize hl0 : ((la : Int) == 0) = l0
  go_enter Try.func60, Try.ntmps60
  go_upto_region 1 with (fail)
  obtain ⟨w1, hw1⟩ : ∃ w1, w1 = w.alloc (.cells #[.int .i64 xop, .int .i64 xd, .int .i64 xa, .int .i64 xb, .int .i64 xn, .int .i64 xm, .slice A la c] 43) := ⟨_, rfl⟩
  have HBX := hide (show Box w1 w.heap.size #[.int .i64 xop, .int .i64 xd, .int .i64 xa, .int .i64 xb, .int .i64 xn, .int .i64 xm, .slice A la c] 43 by rw [hw1]; exact Box.new w _ _)
  have HB1 := hide (show Below w.heap.size w w1 by rw [hw1]; exact alloc1 w _)
  have hl1 := HBX.out.lt
  obtain ⟨x0, x1, x2, x3, x4, x5, x6⟩ := SBoxR.of HBX.out
  rw [← hw1]
  clear hw1
  refine wp_region_lit ?_
  dsimp only [List.append]
  refine wpList_at 9 (Met fun a' w' => w1 = w' ∧ ∃ (u3 u4 u5 u6 u7 u8 u9 u10 : Value), a' = ⟨#[Value.agg #[.int .i64 xop, .int .i64 xd, .int .i64 xa, .int .i64 xb, .int .i64 xn, .int .i64 xm, .slice A la c], Value.pointer (some ⟨w.heap.size, 0, none⟩), Value.bool false, u3, u4, u5, u6, u7, u8, u9, u10, Value.bool (d0 || b1), undef, undef, undef, undef, undef, undef, undef, undef, undef, undef, undef, undef, undef, undef, undef, undef, undef, undef, undef, undef, undef, undef, undef, undef, undef, undef, undef, undef, undef, undef, undef, undef, undef, undef, undef, undef, undef, undef, undef, undef, undef, undef, undef, undef, undef, undef, undef, undef, undef, undef, undef, undef, undef, undef, undef], []⟩) ?_ ?_
  · dsimp only [List.take]
    cases d0 <;> cases b1
    all_goals
      go_wp2_with (first
        | (go_at_call 78; (with_reducible refine (H68.out _).mono ?_); rintro e w' ⟨rfl, rfl⟩))
      exact Met.intro ⟨rfl, _, _, _, _, _, _, _, _, rfl⟩
  dsimp only [List.drop]
  rintro a' w' ⟨rfl, u3, u4, u5, u6, u7, u8, u9, u10, rfl⟩
  obtain ⟨c1, hc1⟩ : ∃ c, c = (d0 || b1) := ⟨_, rfl⟩
  rw [← hc1]
  have HC1 := hide hc1
  clear hc1
  refine wpList_at 10 (Met fun a' w' => w1 = w' ∧ ∃ (u12 u13 u14 u15 u16 u17 u18 u19 u20 : Value), a' = ⟨#[Value.agg #[.int .i64 xop, .int .i64 xd, .int .i64 xa, .int .i64 xb, .int .i64 xn, .int .i64 xm, .slice A la c], Value.pointer (some ⟨w.heap.size, 0, none⟩), Value.bool false, u3, u4, u5, u6, u7, u8, u9, u10, Value.bool c1, u12, u13, u14, u15, u16, u17, u18, u19, u20, Value.bool (c1 && (a0 || b2)), undef, undef, undef, undef, undef, undef, undef, undef, undef, undef, undef, undef, undef, undef, undef, undef, undef, undef, undef, undef, undef, undef, undef, undef, undef, undef, undef, undef, undef, undef, undef, undef, undef, undef, undef, undef, undef, undef, undef, undef, undef, undef, undef, undef, undef], []⟩) ?_ ?_
  · dsimp only [List.take]
    cases c1 <;> cases a0 <;> cases b2
    all_goals
      go_wp2_with (first
        | (go_at_call 78; (with_reducible refine (H65.out _).mono ?_); rintro e w' ⟨rfl, rfl⟩))
      exact Met.intro ⟨rfl, _, _, _, _, _, _, _, _, _, rfl⟩
  dsimp only [List.drop]
  rintro a' w' ⟨rfl, u12, u13, u14, u15, u16, u17, u18, u19, u20, rfl⟩
  obtain ⟨c2, hc2⟩ : ∃ c, c = (c1 && (a0 || b2)) := ⟨_, rfl⟩
  rw [← hc2]
  have HC2 := hide hc2
  clear hc2
  refine wpList_at 10 (Met fun a' w' => w1 = w' ∧ ∃ (u22 u23 u24 u25 u26 u27 u28 u29 u30 : Value), a' = ⟨#[Value.agg #[.int .i64 xop, .int .i64 xd, .int .i64 xa, .int .i64 xb, .int .i64 xn, .int .i64 xm, .slice A la c], Value.pointer (some ⟨w.heap.size, 0, none⟩), Value.bool false, u3, u4, u5, u6, u7, u8, u9, u10, Value.bool c1, u12, u13, u14, u15, u16, u17, u18, u19, u20, Value.bool c2, u22, u23, u24, u25, u26, u27, u28, u29, u30, Value.bool (c2 && (e0 || b3)), undef, undef, undef, undef, undef, undef, undef, undef, undef, undef, undef, undef, undef, undef, undef, undef, undef, undef, undef, undef, undef, undef, undef, undef, undef, undef, undef, undef, undef, undef, undef, undef, undef, undef, undef], []⟩) ?_ ?_
  · dsimp only [List.take]
    cases c2 <;> cases e0 <;> cases b3
    all_goals
      go_wp2_with (first
        | (go_at_call 78; (with_reducible refine (H66.out _).mono ?_); rintro e w' ⟨rfl, rfl⟩))
      exact Met.intro ⟨rfl, _, _, _, _, _, _, _, _, _, rfl⟩
  dsimp only [List.drop]
  rintro a' w' ⟨rfl, u22, u23, u24, u25, u26, u27, u28, u29, u30, rfl⟩
  obtain ⟨c3, hc3⟩ : ∃ c, c = (c2 && (e0 || b3)) := ⟨_, rfl⟩
  rw [← hc3]
  have HC3 := hide hc3
  clear hc3
  refine wpList_at 15 (Met fun a' w' => w1 = w' ∧ ∃ (u32 u33 u34 u35 u36 u37 u38 u39 u40 u41 u42 u43 u44 u45 : Value), a' = ⟨#[Value.agg #[.int .i64 xop, .int .i64 xd, .int .i64 xa, .int .i64 xb, .int .i64 xn, .int .i64 xm, .slice A la c], Value.pointer (some ⟨w.heap.size, 0, none⟩), Value.bool false, u3, u4, u5, u6, u7, u8, u9, u10, Value.bool c1, u12, u13, u14, u15, u16, u17, u18, u19, u20, Value.bool c2, u22, u23, u24, u25, u26, u27, u28, u29, u30, Value.bool c3, u32, u33, u34, u35, u36, u37, u38, u39, u40, u41, u42, u43, u44, u45, Value.bool (c3 && (n0 || (b4 || b5))), undef, undef, undef, undef, undef, undef, undef, undef, undef, undef, undef, undef, undef, undef, undef, undef, undef, undef, undef, undef], []⟩) ?_ ?_
  · dsimp only [List.take]
    cases c3 <;> cases n0 <;> cases b4 <;> cases b5
    all_goals
      go_wp2_with (first
        | (go_at_call 78; (with_reducible refine (H78.out _).mono ?_); rintro e w' ⟨rfl, rfl⟩)
        | (go_at_call 78; (with_reducible refine (H110.out _).mono ?_); rintro e w' ⟨rfl, rfl⟩))
      exact Met.intro ⟨rfl, _, _, _, _, _, _, _, _, _, _, _, _, _, _, rfl⟩
  dsimp only [List.drop]
  rintro a' w' ⟨rfl, u32, u33, u34, u35, u36, u37, u38, u39, u40, u41, u42, u43, u44, u45, rfl⟩
  obtain ⟨c4, hc4⟩ : ∃ c, c = (c3 && (n0 || (b4 || b5))) := ⟨_, rfl⟩
  rw [← hc4]
  have HC4 := hide hc4
  clear hc4
  refine wpList_at 10 (Met fun a' w' => w1 = w' ∧ ∃ (u47 u48 u49 u50 u51 u52 u53 u54 u55 : Value), a' = ⟨#[Value.agg #[.int .i64 xop, .int .i64 xd, .int .i64 xa, .int .i64 xb, .int .i64 xn, .int .i64 xm, .slice A la c], Value.pointer (some ⟨w.heap.size, 0, none⟩), Value.bool false, u3, u4, u5, u6, u7, u8, u9, u10, Value.bool c1, u12, u13, u14, u15, u16, u17, u18, u19, u20, Value.bool c2, u22, u23, u24, u25, u26, u27, u28, u29, u30, Value.bool c3, u32, u33, u34, u35, u36, u37, u38, u39, u40, u41, u42, u43, u44, u45, Value.bool c4, u47, u48, u49, u50, u51, u52, u53, u54, u55, Value.bool (c4 && (m0 || b6)), undef, undef, undef, undef, undef, undef, undef, undef, undef, undef], []⟩) ?_ ?_
  · dsimp only [List.take]
    cases c4 <;> cases m0 <;> cases b6
    all_goals
      go_wp2_with (first
        | (go_at_call 78; (with_reducible refine (H77.out _).mono ?_); rintro e w' ⟨rfl, rfl⟩))
      exact Met.intro ⟨rfl, _, _, _, _, _, _, _, _, _, rfl⟩
  dsimp only [List.drop]
  rintro a' w' ⟨rfl, u47, u48, u49, u50, u51, u52, u53, u54, u55, rfl⟩
  obtain ⟨c5, hc5⟩ : ∃ c, c = (c4 && (m0 || b6)) := ⟨_, rfl⟩
  rw [← hc5]
  have HC5 := hide hc5
  clear hc5
  cases c5 <;> cases l0 <;> cases b7
  all_goals
    go_wp2_with (first
      | (go_at_call 78; (with_reducible refine (H76.out _).mono ?_); rintro e w' ⟨rfl, rfl⟩))
    go_ret
    exact ⟨ret_bool (by have h1 := HC1.out; have h2 := HC2.out; have h3 := HC3.out; have h4 := HC4.out; have h5 := HC5.out; subst h1; subst h2; subst h3; subst h4; revert h5; generalize (d0 || b1) = q1; generalize (a0 || b2) = q2; generalize (e0 || b3) = q3; generalize (n0 || (b4 || b5)) = q4; generalize (m0 || b6) = q5; cases q1 <;> cases q2 <;> cases q3 <;> cases q4 <;> cases q5 <;> simp), HB1.out⟩
end Go.Proofs.Ytkpikgakphdjjaa
