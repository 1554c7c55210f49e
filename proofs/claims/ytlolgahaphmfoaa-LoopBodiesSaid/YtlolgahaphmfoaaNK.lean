/- The contracts of the reference's Size and SameEdges of layer 5, and of the statements' own question whether a program isn't asked about. Condition: no slice of the program is longer than any machine's memory. -/
import Derived.Test.YtlolgahaphmfoaaFL
import Derived.Test.YtlolgahaphmfoaaNC
set_option linter.unusedSimpArgs false
set_option linter.unusedVariables false
namespace Go.Proofs.Ytlolgahaphmfoaa
open Go.RowKit

set_option maxRecDepth 100000 in
theorem sameEdges_yes (A1 A2 : Option Addr) (c1 c2 : Nat) (es : List (Int × Int)) (w : World) (h1 : EdgS w w.heap.size A1 es) (h2 : EdgS w w.heap.size A2 es) (hn : es.length ≤ 1000) :
    Calls Try.prog 10 #[.slice A1 es.length c1, .slice A2 es.length c2] w fun e w' => e = .returned (.bool true) ∧ Below w.heap.size w w' := by
  obtain ⟨n, hn'⟩ : ∃ n, es.length = n := ⟨_, rfl⟩
  rw [hn'] at hn ⊢
  have HN := hide hn'
  have H1 := hide h1
  have H2 := hide h2
  clear hn' h1 h2
  go_enter Try.func10, Try.ntmps10
  go_wp2
  go_loopw [5] (fun i wr => ∃ k : Nat, k ≤ n ∧ i = .int .i64 k ∧ Below w.heap.size w wr) (fun i _ => n - (intOf i).toNat)
  case atStart => exact ⟨0, Nat.zero_le _, rfl, Below.refl _ _⟩
  case round =>
    obtain ⟨k, hk, rfl, hb⟩ := hrel
    have hsz := hb.size
    have HB := hide hb
    by_cases hlt : k < n
    · obtain ⟨p, hp⟩ : ∃ p, es[k]? = some p := ⟨_, List.getElem?_eq_getElem (by have := HN.out; omega)⟩
      obtain ⟨b1, o1, rfl, hb1, hc1⟩ := (H1.out.below hb) (by have := HN.out; omega)
      obtain ⟨b2, o2, rfl, hb2, hc2⟩ := (H2.out.below hb) (by have := HN.out; omega)
      obtain ⟨x1, x2⟩ := hc1 k p hp
      obtain ⟨y1, y2⟩ := hc2 k p hp
      have s1 : b1 < wr.heap.size := by omega
      have s2 : b2 < wr.heap.size := by omega
      obtain ⟨pa, pb⟩ := p
      simp only at x1 x2 y1 y2
      have hki : (0 : Int) ≤ (k : Int) := by omega
      have hkn : (k : Int) < (n : Int) := by omega
      clear hc1 hc2 hp hb
      go_wp2_with fail
      go_quiet (fail)
      go_wp2
      go_roundw
      case rel => exact ⟨k + 1, by omega, by go_num, below_drewN HB.out _⟩
      case measure => simp [intOf]; omega
    · clear hb
      go_wp2
      go_ret
      exact ⟨rfl, HB.out⟩
end Go.Proofs.Ytlolgahaphmfoaa
namespace Go.Proofs.Ytlolgahaphmfoaa
open Go.RowKit

theorem ints_same5 (va vb : Value) (xs : List Int) (w : World) (B : Nat) (hx : IntsV w (· < B) va xs) (hy : IntsV w (· < B) vb xs) :
    Calls Try.prog 17 #[va, vb] w fun e w' => e = .returned (.bool true) ∧ Below w.heap.size w w' :=
  (rints_any va vb xs xs w B hx hy).mono fun e w' ⟨h1, q, h2⟩ => ⟨by rw [h1]; simp, by rw [h2]; exact below_drewN (Below.refl _ _) q⟩
theorem nxtI_R {f : FunV} (hok : FlowOk f) (z : Int) : ∀ v ∈ nxtI f z, i64R v := by
  unfold nxtI
  split
  · exact nxt_R hok _
  · intro v hv; cases hv
theorem prevN_R {f : FunV} (hok : FlowOk f) (z : Int) : ∀ v ∈ prevN f z, i64R v := by
  intro v hv
  unfold prevN edgesN edgesTo at hv
  simp only [List.mem_map, List.mem_filter, List.mem_flatMap, List.mem_range] at hv
  obtain ⟨p, ⟨⟨i, hi, u, -, rfl⟩, -⟩, rfl⟩ := hv
  have := hok.1
  unfold i64R
  simp only
  omega
end Go.Proofs.Ytlolgahaphmfoaa
namespace Go.Proofs.Ytlolgahaphmfoaa
open Go.RowKit

theorem mem_edgesN {f : FunV} {a : Nat} {v : Int} (ha : a < f.blocks.length) : ((a : Int), v) ∈ edgesN f ↔ v ∈ nxt f a := by
  unfold edgesN edgesTo
  simp only [List.mem_flatMap, List.mem_map, List.mem_range, Prod.mk.injEq]
  constructor
  · rintro ⟨i, -, u, hu, h1, rfl⟩
    have : i = a := by omega
    subst this
    exact hu
  · intro h
    exact ⟨a, ha, v, h, rfl, rfl⟩
theorem mem_prevN {f : FunV} {a : Nat} {z : Int} (ha : a < f.blocks.length) : (a : Int) ∈ prevN f z ↔ z ∈ nxt f a := by
  rw [← mem_edgesN ha]
  unfold prevN
  simp only [List.mem_map, List.mem_filter, beq_iff_eq]
  constructor
  · rintro ⟨⟨x, y⟩, ⟨h1, rfl⟩, rfl⟩
    exact h1
  · intro h
    exact ⟨_, ⟨h, rfl⟩, rfl⟩
section
variable {α : Type} {l : List α} {z y : α} {k : Nat}
theorem take_zero_iff : (false = true ↔ z ∈ l.take 0) := by simp
theorem take_yes (h : true = true ↔ z ∈ l.take k) : (true = true ↔ z ∈ l.take (k + 1)) := by
  have := h.1 rfl
  simp only [true_iff]
  rw [List.take_add_one]
  exact List.mem_append_left _ this
theorem take_hit (hy : l[k]? = some y) (hz : y = z) : (true = true ↔ z ∈ l.take (k + 1)) := by
  simp only [true_iff]
  rw [List.take_add_one, hy, hz]
  simp
theorem take_no (h : false = true ↔ z ∈ l.take k) (hy : l[k]? = some y) (hz : ¬ y = z) : (false = true ↔ z ∈ l.take (k + 1)) := by
  have hn : z ∉ l.take k := fun hm => by have := h.2 hm; cases this
  simp only [Bool.false_eq_true, false_iff]
  rw [List.take_add_one, hy]
  intro hm
  rcases List.mem_append.1 hm with h1 | h1
  · exact hn h1
  · simp at h1; exact hz h1.symm
theorem take_end {b R : Bool} (h : b = true ↔ z ∈ l.take k) (hk : l.length ≤ k) (hR : R = true ↔ z ∈ l) : b = R := by
  rw [List.take_of_length_le hk] at h
  rw [Bool.eq_iff_iff, h, hR]
end
end Go.Proofs.Ytlolgahaphmfoaa
