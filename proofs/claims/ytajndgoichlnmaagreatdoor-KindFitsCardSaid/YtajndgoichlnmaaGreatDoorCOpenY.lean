/- An instruction among a statement's arguments, opened, and how many arguments it may have. No condition. -/
import Derived.Test.YtajndgoichlnmaaGreatDoorCOpenW
set_option linter.unusedSimpArgs false
set_option linter.unusedVariables false
namespace Go.Proofs.YtajndgoichlnmaaGreatDoor
open Go.ChangeShapes Go.WideShapes Go.ChangeAt Go.RowKit Go.Deep

section
variable {H : Type} {enc : TypeId × Value → H} {W : World}
theorem bytes8_i64 : Tryz.prog.bytesOf 3 = 8 := by kernel_rfl
theorem ints_weight {S : Nat → Prop} {fuel : Nat} {v : Value} {zs : List Int} {x : DataW H × List MemPlace} (h : DataW.trod enc Tryz.prog W 0 (fun _ => true) true fuel 29 [v] = some x) (hw : (x.1.weights Tryz.prog 29).all (· ≤ reachBytes) = true) (hz : IntsV W S v zs) : zs.length * 8 ≤ reachBytes := by
  obtain ⟨A, c, e, -, -⟩ := hz.open'
  rcases open_slice Tryz.underlying29 h with ⟨h1, -⟩ | ⟨a, len, cap, m, n, D, Pl, hcs, -, hl, hm, hmm, rfl, hi⟩
  · simp at h1
    subst h1
    injection e with _ e2 _
    omega
  · simp at hcs
    subst hcs
    injection e with _ e2 _
    subst e2
    simp only [DataW.weights, Tryz.underlying29, List.all_cons, List.all_append, Bool.and_eq_true, decide_eq_true_eq, List.length_map, List.length_range, bytes8_i64] at hw
    obtain ⟨h1, -⟩ := hw
    omega
set_option maxRecDepth 100000 in
theorem open_insX {r : Reach} {b0 : Nat} {v : Value} {d : DataW H} {pl : List MemPlace} (hv : Value.okWide Tryz.prog W r b0 31 v) (h : DataW.Trod enc Tryz.prog W 0 (fun _ => true) true 31 v d pl) (hlt : ∀ y ∈ pl, y.block < W.heap.size) (hw : (d.weights Tryz.prog 31).all (· ≤ reachBytes) = true) :
    ∃ va x, v = .agg #[.int .i64 x.op, .int .i64 x.d, .int .i64 x.a, .int .i64 x.b, .int .i64 x.n, .int .i64 x.m, va] ∧ InsI W (· < W.heap.size) va x ∧ x.args.length ≤ 17592186044000 := by
  obtain ⟨cs, rfl, hsz⟩ := okWide_struct Tryz.underlying31 hv
  obtain ⟨fuel, hf⟩ := h
  obtain ⟨n', hf⟩ := read_structW Tryz.underlying31 hone_Ins types_Ins hf hlt hw
  rw [cells_Ins] at hsz
  obtain ⟨l⟩ := cs
  match l, hsz with
  | [c0, c1, c2, c3, c4, c5, c6], _ =>
    obtain ⟨x0, h0, -⟩ := hf 0 _ c0 rfl rfl
    obtain ⟨x1, h1, -⟩ := hf 1 _ c1 rfl rfl
    obtain ⟨x2, h2, -⟩ := hf 2 _ c2 rfl rfl
    obtain ⟨x3, h3, -⟩ := hf 3 _ c3 rfl rfl
    obtain ⟨x4, h4, -⟩ := hf 4 _ c4 rfl rfl
    obtain ⟨x5, h5, -⟩ := hf 5 _ c5 rfl rfl
    obtain ⟨x6, h6, hp6, hw6⟩ := hf 6 _ c6 rfl rfl
    obtain ⟨z0, rfl, r0⟩ := open_int1 h0
    obtain ⟨z1, rfl, r1⟩ := open_int1 h1
    obtain ⟨z2, rfl, r2⟩ := open_int1 h2
    obtain ⟨z3, rfl, r3⟩ := open_int1 h3
    obtain ⟨z4, rfl, r4⟩ := open_int1 h4
    obtain ⟨z5, rfl, r5⟩ := open_int1 h5
    obtain ⟨zs, hz⟩ := open_intsV h6 hp6
    have h8 := ints_weight h6 hw6 hz
    have hr : reachBytes = 140737488351232 := by decide
    exact ⟨c6, ⟨z0, z1, z2, z3, z4, z5, zs⟩, rfl, ⟨hz, r0, r1, r2, r3, r4, r5⟩, by show zs.length ≤ 17592186044000; omega⟩
end
end Go.Proofs.YtajndgoichlnmaaGreatDoor
