/- What the rows of layer 12 share: a slice of words among the arguments, opened. -/
import Derived.Test.YtpccjlgnehghgaaDoorPbCOpenS
import Derived.Test.YtpccjlgnehghgaaDoorPbNP
set_option linter.unusedSimpArgs false
set_option linter.unusedVariables false
namespace Go.Proofs.YtpccjlgnehghgaaDoor
open Go.ChangeShapes Go.WideShapes Go.ChangeAt Go.RowKit

theorem nI_of12 (zs : List Int) (h : ∀ z ∈ zs, 0 ≤ z) : zs = nI (zs.map Int.toNat) := by
  induction zs with
  | nil => rfl
  | cons z zs ih =>
    have h0 := h z (List.mem_cons_self ..)
    have h1 := ih fun y hy => h y (List.mem_cons_of_mem _ hy)
    simp only [nI, List.map_cons, List.cons.injEq]
    exact ⟨by omega, h1⟩

theorem cells_u64 : Tryd.prog.cellsOf 65 = 1 := by kernel_rfl
/-- An argument that is a slice of words, opened: its address, its length, its words. -/
theorem open_words {H : Type} {enc : TypeId × Value → H} {W : World} {a0 : Option Addr} {len cap fuel : Nat} {d : DataW H} {p : List MemPlace}
    (hf : DataW.trod enc Tryd.prog W 0 (fun _ => true) true fuel 31 (Value.slice a0 len cap).cells.toList = some (d, p)) (hlt : ∀ x ∈ p, x.block < W.heap.size) :
    ∃ ws : List Nat, ws.length = len ∧ len ≤ cap ∧ cap ≤ 9223372036854775807 ∧ Sl W W.heap.size .u64 a0 (nI ws) ∧ W64 ws := by
  obtain ⟨zs, hn, hlc, hcm, hsl, hwz⟩ := open_sl Tryd.underlying31 Tryd.underlying65 cells_u64 hf hlt
  have e := nI_of12 zs fun z hz => (bounds_u64 (hwz z hz)).1
  refine ⟨zs.map Int.toNat, by simpa using hn, hlc, by simp only [maxLen] at hcm; omega, by rw [← e]; exact hsl, fun x hx => ?_⟩
  obtain ⟨z, hz, rfl⟩ := List.mem_map.1 hx
  have := bounds_u64 (hwz z hz)
  omega
end Go.Proofs.YtpccjlgnehghgaaDoor
