/- The contracts of the reference's Size and SameEdges of layer 5, and of the statements' own question whether a program isn't asked about. Condition: no slice of the program is longer than any machine's memory. -/
import Derived.Test.YtnoknodijombpaaPeNB
import Derived.Test.YtnoknodijombpaaPeMR
import Derived.Test.YtnoknodijombpaaPeSAlive
import Derived.Test.YtnoknodijombpaaPeNC
set_option linter.unusedSimpArgs false
set_option linter.unusedVariables false
namespace Go.Proofs.Ytnoknodijombpaa
open Go.RowKit

set_option maxRecDepth 100000 in
theorem sameEdges_yes (A1 A2 : Option Addr) (c1 c2 : Nat) (es : List (Int × Int)) (w : World) (h1 : EdgS w w.heap.size A1 es) (h2 : EdgS w w.heap.size A2 es) (hn : es.length ≤ 1000) :
    Calls Try.prog 11 #[.slice A1 es.length c1, .slice A2 es.length c2] w fun e w' => e = .returned (.bool true) ∧ Below w.heap.size w w' := by
  obtain ⟨n, hn'⟩ : ∃ n, es.length = n := ⟨_, rfl⟩
  rw [hn'] at hn ⊢
  have HN := hide hn'
  have H1 := hide h1
  have H2 := hide h2
  clear hn' h1 h2
  go_enter Try.func11, Try.ntmps11
  go_wp2
  go_loopw [5] (fun i wr => ∃ k : Nat, k ≤ n ∧ i = .int .i64 k ∧ Below w.heap.size w wr) (fun i _ => n - (intOf i).toNat)
  case atStart => exact ⟨0, Nat.zero_le _, rfl, Below.refl _ _⟩
  case round =>
    obtain ⟨k, hk, rfl, hb⟩ := hrel
    have hsz := hb.size
    have HB := hide hb
    by_cases hlt : k < n
    · obtain ⟨p, hp⟩ : ∃ p, es[k]? = some p := ⟨_, List.getElem?_eq_getElem (by have := HN.out; omega)⟩
      obtain ⟨b1, o1, rfl, hb1, hc1⟩ := (H1.out.below hb) (by have := HN.out; omega)
      obtain ⟨b2, o2, rfl, hb2, hc2⟩ := (H2.out.below hb) (by have := HN.out; omega)
      obtain ⟨x1, x2⟩ := hc1 k p hp
      obtain ⟨y1, y2⟩ := hc2 k p hp
      have s1 : b1 < wr.heap.size := by omega
      have s2 : b2 < wr.heap.size := by omega
      obtain ⟨pa, pb⟩ := p
      simp only at x1 x2 y1 y2
      have hki : (0 : Int) ≤ (k : Int) := by omega
      have hkn : (k : Int) < (n : Int) := by omega
      clear hc1 hc2 hp hb
      go_wp2_with fail
      go_quiet (fail)
      go_wp2
      go_roundw
      case rel => exact ⟨k + 1, by omega, by go_num, below_drewN HB.out _⟩
      case measure => simp [intOf]; omega
    · clear hb
      go_wp2
      go_ret
      exact ⟨rfl, HB.out⟩
end Go.Proofs.Ytnoknodijombpaa
namespace Go.Proofs.Ytnoknodijombpaa
open Go.RowKit

end Go.Proofs.Ytnoknodijombpaa
namespace Go.Proofs.Ytnoknodijombpaa
open Go.RowKit

section
variable {α : Type} {l : List α} {z y : α} {k : Nat}
end
end Go.Proofs.Ytnoknodijombpaa
