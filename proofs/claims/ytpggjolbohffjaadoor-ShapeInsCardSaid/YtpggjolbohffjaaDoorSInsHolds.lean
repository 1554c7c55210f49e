/- ShapeIns: for every program, number and instruction the statement answers true, and its arguments read as they did. Condition, tied by the card to the program's text: the table of parts reads as its initialiser lays it. -/
import Derived.Test.YtpggjolbohffjaaDoorSInsL
import Derived.Test.YtpggjolbohffjaaDoorCDoor
import Derived.Test.YtpggjolbohffjaaDoorCOpenW
import Derived.Test.YtpggjolbohffjaaDoorCOpen
import Derived.Test.YtpggjolbohffjaaDoorTie
import Derived.Test.YtpggjolbohffjaaDoorCards
import Derived.SevenTiedAt
set_option linter.unusedSimpArgs false
set_option linter.unusedVariables false
namespace Go.Proofs.YtpggjolbohffjaaDoor
open Go.ChangeShapes Go.WideShapes Go.ChangeAt Go.RowKit

section
variable {H : Type} {enc : TypeId × Value → H} {W : World}
set_option maxRecDepth 100000 in
theorem open_ins {r : Reach} {b0 : Nat} {v : Value} {d : DataW H} {pl : List MemPlace} (hv : Value.okWide Tryd.prog W r b0 41 v) (h : DataW.Trod enc Tryd.prog W 0 (fun _ => true) true 41 v d pl) (hlt : ∀ y ∈ pl, y.block < W.heap.size) :
    ∃ va x, v = .agg #[.int .i64 x.op, .int .i64 x.d, .int .i64 x.a, .int .i64 x.b, .int .i64 x.n, .int .i64 x.m, va] ∧ InsI W (· < W.heap.size) va x := by
  obtain ⟨cs, rfl, hsz⟩ := okWide_struct Tryd.underlying41 hv
  obtain ⟨fuel, hf⟩ := h
  obtain ⟨n', hf⟩ := read_struct Tryd.underlying41 hone_Ins types_Ins hf hlt
  rw [cells_Ins] at hsz
  obtain ⟨l⟩ := cs
  match l, hsz with
  | [c0, c1, c2, c3, c4, c5, c6], _ =>
    obtain ⟨x0, h0, -⟩ := hf 0 _ c0 rfl rfl
    obtain ⟨x1, h1, -⟩ := hf 1 _ c1 rfl rfl
    obtain ⟨x2, h2, -⟩ := hf 2 _ c2 rfl rfl
    obtain ⟨x3, h3, -⟩ := hf 3 _ c3 rfl rfl
    obtain ⟨x4, h4, -⟩ := hf 4 _ c4 rfl rfl
    obtain ⟨x5, h5, -⟩ := hf 5 _ c5 rfl rfl
    obtain ⟨x6, h6, hp6⟩ := hf 6 _ c6 rfl rfl
    obtain ⟨z0, rfl, r0⟩ := open_int1 h0
    obtain ⟨z1, rfl, r1⟩ := open_int1 h1
    obtain ⟨z2, rfl, r2⟩ := open_int1 h2
    obtain ⟨z3, rfl, r3⟩ := open_int1 h3
    obtain ⟨z4, rfl, r4⟩ := open_int1 h4
    obtain ⟨z5, rfl, r5⟩ := open_int1 h5
    obtain ⟨zs, hz⟩ := open_intsV h6 hp6
    exact ⟨c6, ⟨z0, z1, z2, z3, z4, z5, zs⟩, rfl, hz, r0, r1, r2, r3, r4, r5⟩
end

namespace insp
set_option maxRecDepth 100000 in
theorem lifted (os : Os) (started : os.Started) (H : Type) (enc : TypeId × Value → H) :
    ReturnsInHanded {} Tryd.checked os 5 .any (fun w args => (Rows.shapeInsSpec.pre enc Tryd.prog Tryd.f5 [] false w args ∧ laidMetH Tryd.prog laid1 w) ∧ sizedMet enc Tryd.prog Tryd.f5 (OpenSpec.ofChange Rows.shapeInsSpec) false w args)
      (Rows.shapeInsSpec.post enc Tryd.prog Tryd.f5 false true false false) := by
  refine returnsInHanded_of_change_and (C := Tryd.checked) (X := fun w _ => laidMetH Tryd.prog laid1 w) (fun _ _ _ hh h => h.of_heap hh) own started (by kernel_rfl) Tryd.func5
    (ChangeSpec.witness_shaped (enc := enc) (C := Tryd.checked) (os := os) (X := fun w _ => laidMetH Tryd.prog laid1 w) false (World.doorLaid Tryd.prog 400 os) #[.agg #[.slice none 0 0], .int .i64 0, .agg #[.int .i64 0, .int .i64 0, .int .i64 0, .int .i64 0, .int .i64 0, .int .i64 0, .slice none 0 0]] 8 rfl (World.shaped_of_RefB (by kernel_rfl) (by kernel_rfl)) (by kernel_rfl) (by kernel_rfl) (by kernel_rfl) (door_met os _)) ?_
  intro W base args ds gs before hval0 hW _ hWt hL _
  have hTab := of_laid hL
  have hval : ∀ (j : Nat) t v, Tryd.f5.params[j]? = some t → args[j]? = some v → Value.okWide Tryd.prog W .any base t v := hval0
  have hW' := hW
  obtain ⟨p, q, hA0, hV, rfl, _, _⟩ := hW
  have hA : DataW.TrodAll enc Tryd.prog W 0 (fun _ => true) true Tryd.f5.params.toList args.toList ds p := hA0
  rw [Tryd.params5] at hA hval
  obtain ⟨v0, v1, v2, d0, d1, d2, p0, p1, p2, rfl, rfl, rfl, h0, h1, h2⟩ := trodAll_three hA
  obtain ⟨rfl, rfl⟩ := trodVars_none hV
  obtain ⟨x1, rfl, rfl, rfl, wx1⟩ := open_int Tryd.underlying3 (hval 1 3 v1 rfl rfl) h1
  clear hA0 hval0
  simp only [List.append_nil, List.append_assoc] at hW'
  have hlt0 : ∀ x ∈ p0, x.block < W.heap.size := fun x hx => hW'.lt x (by simp [hx])
  have hlt2 : ∀ x ∈ p2, x.block < W.heap.size := fun x hx => hW'.lt x (by simp [hx])
  obtain ⟨vp0, P0, rfl, hP0, hsz0⟩ := open_progW (hval 0 26 v0 rfl rfl) h0 hlt0 (weightsEach_get (i := 0) rfl rfl hWt)
  obtain ⟨va2, X2, rfl, hX2⟩ := open_ins (hval 2 41 v2 rfl rfl) h2 hlt2
  refine (ins_law vp0 P0 x1 va2 X2 W hTab hP0 hX2 hsz0.size).mono fun e W' ⟨he, hnx⟩ => ?_
  subst he
  exact ⟨_, rfl, _, _, _, [], p0 ++ ([] ++ p2), [], hW', trodAll_cons_mk (shut_bool Tryd.underlying4 _) trodAll_mk0, trodAll_mk3 (Below.trod laidOut (by kernel_rfl) (of_decide_eq_true (by kernel_rfl)) h0 hnx hlt0) (shut_int Tryd.underlying3 wx1) (Below.trod laidOut (by kernel_rfl) (of_decide_eq_true (by kernel_rfl)) h2 hnx hlt2), rfl, hnx.frame _, fun h => by cases h⟩

theorem row_holds : Rows.ShapeInsSaid :=
  OpenClaim.holds_of_wide 5 Tryd.f5 rfl rfl rfl rfl rfl rfl rfl ⟨rfl, rfl, rfl, rfl, rfl⟩ rfl rfl rfl rfl rfl (by kernel_rfl) Tryd.func5 (by kernel_rfl)
    (of_decide_eq_true (by kernel_rfl)) (by unfold Func.isWrapper; first | (rw [if_pos (by decide +kernel)]; kernel_rfl) | (rw [if_neg (by decide +kernel)]; exact ⟨rfl, rfl⟩))
    (fun os started H enc _ => lifted os started H enc)

theorem holds : Rows.ShapeInsCardSaid :=
  Claim7.holds_tied_plain_at .later [] [.data] true Rows.shapeInsCard.stood.harness false
    row_holds (fun _ h => by cases h) (by kernel_rfl) (fun _ h => by cases h) shapeIns_row_tie rfl ⟨rfl, rfl⟩ (by kernel_rfl) rfl
    (fun f fn hf hfn => by
      obtain rfl : f = 5 := Option.some.inj ((show Tryd.prog.funcNamed "portolan/portolanlaw04.ShapeIns" = some 5 by kernel_rfl).symm.trans hf) |>.symm
      obtain rfl : fn = Tryd.f5 := (Option.some.inj (Tryd.func5.symm.trans hfn)).symm
      exact ⟨by kernel_rfl, fun j t ht => by
        rw [Tryd.params5] at ht
        have hm : t ∈ [26, 3, 41] := by simpa using Array.mem_of_getElem? ht
        have hall : ([26, 3, 41].all fun u => !Tryd.prog.wantsStandIn u) = true := by kernel_rfl
        exact (show Tryd.prog.wantsStandIn t = false by simpa using List.all_eq_true.1 hall t hm)⟩)
    (by kernel_rfl)
end insp
end Go.Proofs.YtpggjolbohffjaaDoor
