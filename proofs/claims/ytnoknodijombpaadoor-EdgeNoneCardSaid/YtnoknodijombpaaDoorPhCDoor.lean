/- What the tied rows of the seat share: what the listed table of parts gives the walks. Condition: the table reads as listed. -/
import Derived.Test.YtnoknodijombpaaDoorPhCOpen
set_option linter.unusedSimpArgs false
set_option linter.unusedVariables false
namespace Go.Proofs.YtnoknodijombpaaDoor
open Go.ChangeShapes Go.WideShapes Go.ChangeAt Go.RowKit

theorem laid_list : (Rows.laid_portolan_code_parts : DataW Unit) = .agg (partsT.map fun l => .lit (.string (l.map UInt8.ofNat))) := by rfl
theorem of_laid {W : World} (h : laidMetH Tryd.prog laid1 W) : TabP W := by
  rw [MakeChecks.laidMetH_plain _ _ _ (by kernel_rfl)] at h
  obtain ⟨ps, ⟨g0, t0, cs0, f0, p0, q0, hg0, ht0, hv0, hd0, _, _⟩, _, _⟩ := h
  obtain rfl := Option.some.inj (gTab.symm.trans hg0)
  obtain rfl := Option.some.inj (tTab.symm.trans ht0)
  obtain ⟨xs, m1, rfl, hx1, hlen, hn, hel⟩ := DataW.trod_array Tryd.underlying79 hd0
  rw [laid_list] at hx1
  simp only [Prod.mk.injEq, DataW.agg.injEq] at hx1
  have hcell : ∀ j, j < 24 → W.cell? ⟨0, j, none⟩ = some (.string (strOf (partsT.getD j []))) := fun j hj => by
    have h1 := hel j hj
    rw [cells_str, Nat.mul_one] at h1
    obtain ⟨x, hx⟩ : ∃ x, xs[j]? = some x := ⟨_, List.getElem?_eq_getElem (by omega)⟩
    rw [hx] at h1
    obtain ⟨k, e1, e2, _⟩ := DataW.trod_string Tryd.underlying9 h1
    have h2 : (xs.map (·.1))[j]? = some x.1 := by rw [List.getElem?_map, hx]; rfl
    rw [← hx1.1, List.getElem?_map] at h2
    have hlt : j < partsT.length := hj
    rw [List.getElem?_eq_getElem hlt, e2] at h2
    simp only [Option.map_some, Option.some.injEq, DataW.lit.injEq, Lit.string.injEq] at h2
    have h3 := World.var?_cell hg0 hv0 j
    rw [h3, ← Array.getElem?_toList]
    have h4 := congrArg (fun l => l[0]?) e1
    simp only [List.getElem?_cons_zero] at h4
    rw [List.getElem?_take_of_lt (by omega), List.getElem?_drop, Nat.add_zero] at h4
    rw [h4]
    have h5 : k = strOf (partsT.getD j []) := by
      obtain ⟨⟨l⟩⟩ := k
      simp only at h2
      unfold strOf
      rw [List.getD, List.getElem?_eq_getElem hlt, Option.getD_some, h2]
    rw [h5]
  refine ⟨?_, hcell⟩
  rcases Nat.lt_or_ge 0 W.heap.size with h0 | h0
  · exact h0
  · have h1 := hcell 0 (by omega)
    rw [World.cell?, Array.getElem?_eq_none (by show W.heap.size ≤ 0; omega)] at h1
    cases h1
end Go.Proofs.YtnoknodijombpaaDoor
