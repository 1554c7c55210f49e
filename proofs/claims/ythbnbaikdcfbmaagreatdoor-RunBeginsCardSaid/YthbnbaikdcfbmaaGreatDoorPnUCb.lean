/- Layer 10: what holds of a whole run: less fuel, more fuel; no prints, no allocations. No condition. -/
import Derived.Test.YthbnbaikdcfbmaaGreatDoorPnUX
set_option linter.unusedSimpArgs false
set_option linter.unusedVariables false
namespace Go.Proofs.YthbnbaikdcfbmaaGreatDoor
open Go.RowKit
theorem go_add {p : List FunV} : ∀ (n m : Nat) (s : StV), goS p (n + m) s = goS p m (goS p n s)
 | 0, m, s => by rw [Nat.zero_add]; rfl
 | n + 1, m, s => by
  rw [Nat.succ_add]
  show (if s.en = 0 then goS p (n + m) (jg0 p s) else s) = goS p m (if s.en = 0 then goS p n (jg0 p s) else s)
  split
  ·exact go_add n m _
  ·rename_i h
   exact (go_stop h m).symm
theorem step_ev {p : List FunV} {s : StV} (h : InvR p s) (h0 : s.en = 0) : ∃ t, (jg0 p s).ev = s.ev ++ t := by
 obtain ⟨l, f, hst, -, -, -⟩ := h.go h0
 rw [jim hst]
 have key : ∀ r : StV × Nat, (endS r).ev = r.1.ev := fun r => by unfold endS; split <;> rfl
 rw [key]
 unfold doS jlj ansS
 repeat' (first | exact ⟨[], (List.append_nil _).symm⟩ | exact ⟨_, rfl⟩ | split)
theorem go_ev {p : List FunV} (hp : jad p = true) (hR : RunR p) : ∀ (k : Nat) (s : StV), s.steps + k < 100000 → InvR p s → ∃ t, (goS p k s).ev = s.ev ++ t
 | 0, s, _, h => ⟨[], (List.append_nil _).symm⟩
 | k + 1, s, hk, h => by
  unfold goS
  split
  ·rename_i h0
   obtain ⟨t, ht⟩ := step_ev h h0
   obtain ⟨u, hu⟩ := go_ev hp hR k (jg0 p s) (by rw [je7 h h0]; omega) (jgc hp hR (by omega) h h0)
   exact ⟨t ++ u, by rw [hu, ht, List.append_assoc]⟩
  ·exact ⟨[], (List.append_nil _).symm⟩
theorem run_more {p : List FunV} (hp : jad p = true) (hR : RunR p) (n m : Nat) (hnm : n ≤ m) (hm : m ≤ 4000) : (∃ t, (runS p m).ev = (runS p n).ev ++ t) ∧ ((runS p n).en ≠ 0 → runS p m = runS p n) ∧ (runS p n).steps ≤ (runS p m).steps := by
 unfold runS
 rw [show (min (n : Int) 4000).toNat = n by omega, show (min (m : Int) 4000).toNat = n + (m - n) by omega, go_add]
 have hi := inv_go hp hR n (jc0 p) (by show 0 + n < _; omega) (jf7 hp)
 have hc := jnq hp hR n (jc0 p) (by show 0 + n < _; omega) (jf7 hp)
 have z : (jc0 p).steps = 0 := rfl
 exact ⟨go_ev hp hR _ _ (by omega) hi, fun e => go_stop e _, (jnq hp hR _ _ (by omega) hi).1⟩
end Go.Proofs.YthbnbaikdcfbmaaGreatDoor
