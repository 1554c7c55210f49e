/- RunBegins: for every program and two numbers the statement answers true, and its arguments read as they did. Condition, tied by the card to the program's text: the tables of parts and of rows read as their initialisers lay them. -/
import Derived.Test.YthbnbaikdcfbmaaGreatDoorPnUY
import Derived.Test.YthbnbaikdcfbmaaGreatDoorTie
import Derived.Test.YthbnbaikdcfbmaaGreatDoorCards
set_option linter.unusedSimpArgs false
set_option linter.unusedVariables false
set_option maxRecDepth 100000
namespace Go.Proofs.YthbnbaikdcfbmaaGreatDoor
open Go.ChangeShapes Go.WideShapes Go.ChangeAt Go.RowKit
section
variable {H : Type} {enc : TypeId × Value → H} {W : World}
theorem open_w16 {fuel : Nat} {u : Value} {x : DataW H × List MemPlace} (h : DataW.trod enc Tryz.prog W 0 (fun _ => true) true fuel 25 [u] = some x) : ∃ k : Nat, u = .int .u16 (k : Int) ∧ k ≤ 65535 := by
 obtain ⟨z, e, -, hw⟩ := DataW.trod_int Tryz.underlying25 h
 obtain ⟨k, rfl, hk⟩ := jps hw
 simp at e
 exact ⟨k, e, hk⟩
theorem cells_w16 : Tryz.prog.cellsOf 25 = 1 := by kernel_rfl
theorem cells_two16 : Tryz.prog.cellsOf 46 = 2 := by kernel_rfl
theorem open_two16 {r : Reach} {b0 : Nat} {v : Value} {d : DataW H} {pl : List MemPlace} (hv : Value.okWide Tryz.prog W r b0 46 v) (h : DataW.Trod enc Tryz.prog W 0 (fun _ => true) true 46 v d pl) :
  ∃ a b : Nat, v = .agg #[.int .u16 (a : Int), .int .u16 (b : Int)] ∧ a ≤ 65535 ∧ b ≤ 65535 := by
 have hs : ∃ cs, v = .agg cs ∧ cs.size = Tryz.prog.cellsOf 46 := by
  simp only [Value.okWide, Tryz.underlying46] at hv
  obtain ⟨cs, h1, h2, _⟩ := hv
  exact ⟨cs, h1, h2⟩
 obtain ⟨cs, rfl, hsz⟩ := hs
 obtain ⟨fuel, hf⟩ := h
 rw [cells_two16] at hsz
 obtain ⟨l⟩ := cs
 match l, hsz with
 | [c0, c1], _ =>
  obtain ⟨xs, m, -, -, -, hl, hel⟩ := DataW.trod_array Tryz.underlying46 hf
  have h0 := hel 0 (by omega)
  have h1 := hel 1 (by omega)
  rw [cells_w16] at h0 h1
  rw [List.getElem?_eq_getElem (by omega)] at h0 h1
  obtain ⟨a, rfl, ha⟩ := open_w16 h0
  obtain ⟨b, rfl, hb⟩ := open_w16 h1
  exact ⟨a, b, rfl, ha, hb⟩
end
end Go.Proofs.YthbnbaikdcfbmaaGreatDoor
set_option maxRecDepth 100000
namespace Go.Proofs.YthbnbaikdcfbmaaGreatDoor
open Go.ChangeShapes Go.WideShapes Go.ChangeAt Go.RowKit
namespace beginsp
theorem lifted (os : Os) (started : os.Started) (H : Type) (enc : TypeId × Value → H) :
  ReturnsInHanded {} Tryz.checked os 5 .any (fun w args => (Rows.runBeginsSpec.pre enc Tryz.prog Tryz.f5 [] false w args ∧ laidMetH Tryz.prog jkr w) ∧ sizedMet enc Tryz.prog Tryz.f5 (OpenSpec.ofChange Rows.runBeginsSpec) false w args)
   (Rows.runBeginsSpec.post enc Tryz.prog Tryz.f5 false true false false) := by
 refine returnsInHanded_of_change_and (C := Tryz.checked) (X := fun w _ => laidMetH Tryz.prog jkr w) (fun _ _ _ hh h => h.of_heap hh) own started (by kernel_rfl) Tryz.func5
  (ChangeSpec.witness_shaped (enc := enc) (C := Tryz.checked) (os := os) (X := fun w _ => laidMetH Tryz.prog jkr w) false (World.doorLaid Tryz.prog 400 os) #[.agg #[.slice none 0 0], .agg #[.int .u16 0, .int .u16 0]] 8 rfl (World.shaped_of_RefB (by kernel_rfl) (by kernel_rfl)) (by kernel_rfl) (by kernel_rfl) (by kernel_rfl) (jld os _)) ?_
 intro W base args ds gs before hval0 hW _ hWt hL _
 have hTab := jn8 hL
 have hval : ∀ (j : Nat) t v, Tryz.f5.params[j]? = some t → args[j]? = some v → Value.okWide Tryz.prog W .any base t v := hval0
 have hW' := hW
 obtain ⟨p, q, hA0, hV, rfl, _, _⟩ := hW
 have hA : DataW.TrodAll enc Tryz.prog W 0 (fun _ => true) true Tryz.f5.params.toList args.toList ds p := hA0
 rw [Tryz.params5] at hA hval
 obtain ⟨v0, v1, d0, d1, p0, p1, rfl, rfl, rfl, h0, h1⟩ := trodAll_two hA
 obtain ⟨rfl, rfl⟩ := trodVars_none hV
 clear hA0 hval0
 simp only [List.append_nil] at hW'
 have hlt0 : ∀ x ∈ p0, x.block < W.heap.size := fun x hx => hW'.lt x (by simp [hx])
 have hlt1 : ∀ x ∈ p1, x.block < W.heap.size := fun x hx => hW'.lt x (by simp [hx])
 obtain ⟨vp0, P0, rfl, hP0, hsz0⟩ := ji4 (hval 0 24 v0 rfl rfl) h0 hlt0 (jbq (i := 0) rfl rfl hWt)
 obtain ⟨xa1, xb1, rfl, hxa1, hxb1⟩ := open_two16 (hval 1 46 v1 rfl rfl) h1
 refine (begins10_law vp0 P0 xa1 xb1 (by omega) (by omega) W hTab.1 hTab.2 hP0 hsz0.size).mono fun e W' ⟨he, hnx⟩ => ?_
 subst he
 exact ⟨_, rfl, _, _, _, [], p0 ++ p1, [], hW', trodAll_cons_mk (shut_bool Tryz.underlying4 _) trodAll_mk0, trodAll_mk2 (Below.trod jra (by kernel_rfl) (of_decide_eq_true (by kernel_rfl)) h0 hnx hlt0) (Below.trod jra (by kernel_rfl) (of_decide_eq_true (by kernel_rfl)) h1 hnx hlt1), rfl, hnx.frame _, fun h => by cases h⟩
theorem row_holds : Rows.RunBeginsSaid :=
 OpenClaim.holds_of_wide 5 Tryz.f5 rfl rfl rfl rfl rfl rfl rfl ⟨rfl, rfl, rfl, rfl, rfl⟩ rfl rfl rfl rfl rfl (by kernel_rfl) Tryz.func5 (by kernel_rfl)
  (of_decide_eq_true (by kernel_rfl)) (by unfold Func.isWrapper; first | (rw [if_pos (by decide +kernel)]; kernel_rfl) | (rw [if_neg (by decide +kernel)]; exact ⟨rfl, rfl⟩))
  (fun os started H enc _ => lifted os started H enc)
theorem holds : Rows.RunBeginsCardSaid :=
 Claim7.holds_tied_plain_at .later [] [.data, .data] true Rows.runBeginsCard.stood.harness false
  row_holds (fun _ h => by cases h) (by kernel_rfl) (fun _ h => by cases h) runBegins_row_tie rfl ⟨rfl, rfl⟩ (by kernel_rfl) rfl
  (fun f fn hf hfn => by
   obtain rfl : f = 5 := Option.some.inj ((show Tryz.prog.funcNamed "portolan/portolanlaw10.RunBegins" = some 5 by kernel_rfl).symm.trans hf) |>.symm
   obtain rfl : fn = Tryz.f5 := (Option.some.inj (Tryz.func5.symm.trans hfn)).symm
   exact ⟨by kernel_rfl, fun j t ht => by
    rw [Tryz.params5] at ht
    have hm : t ∈ [24, 46] := by simpa using Array.mem_of_getElem? ht
    have hall : ([24, 46].all fun u => !Tryz.prog.wantsStandIn u) = true := by kernel_rfl
    exact (show Tryz.prog.wantsStandIn t = false by simpa using List.all_eq_true.1 hall t hm)⟩)
  (by kernel_rfl)
end beginsp
end Go.Proofs.YthbnbaikdcfbmaaGreatDoor
