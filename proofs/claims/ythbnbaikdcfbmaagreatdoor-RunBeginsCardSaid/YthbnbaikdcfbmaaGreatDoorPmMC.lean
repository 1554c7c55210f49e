/- Texts of several names, of which only what the statement needs is kept. -/
import Derived.Test.YthbnbaikdcfbmaaGreatDoorPmMB
import Derived.Laws.DeepNot64
import Derived.Laws.CopyOwn
import Derived.Deep.DrawnRows
set_option linter.unusedSimpArgs false
set_option linter.unusedVariables false
set_option maxRecDepth 100000
namespace Go.Proofs.YthbnbaikdcfbmaaGreatDoor
open Go.RowKit
theorem jc5 : (Tryz.prog.info? 3).map (fun i => (i.zero, i.size, i.bytes)) = some (some (.int .i64 0), 1, 8) := by kernel_rfl
theorem ints_any (A B : Option Addr) (n m c d : Nat) (xs ys : List Int) (w : World) (Bx By : Nat) (hx : Sl w Bx .i64 A xs) (hy : Sl w By .i64 B ys) (hn : xs.length = n) (hm : ys.length = m) (hmax : n <= 9223372036854775807) (hmax2 : m <= 9223372036854775807) :
  Calls Tryz.prog 19 #[.slice A n c, .slice B m d] w fun e w' => e = .returned (.bool (decide (xs = ys))) /\ ∃ q, w' = w.drewN q := by
 have HX := hide hx; have HY := hide hy; have HN := hide hn; have HM := hide hm
 clear hx hy hn hm
 by_cases hnm : n = m
 ·subst hnm
  go_enter Tryz.func19, Tryz.ntmps19
  go_wp2
  go_loopw [5] (fun i wr => ∃ k q : Nat, i = .int .i64 k /\ k <= n /\ xs.take k = ys.take k /\ wr = w.drewN q) (fun i _ => n - (intOf i).toNat)
  case atStart => exact ⟨0, 0, rfl, Nat.zero_le _, rfl, rfl⟩
  case round =>
   obtain ⟨k, q, rfl, hk, he, rfl⟩ := hrel
   have HE := hide he
   clear he
   by_cases hlt : k < n
   ·obtain ⟨b, o, rfl, -, hcx⟩ := HX.out (by have := HN.out; omega)
    obtain ⟨b', o', rfl, -, hcy⟩ := HY.out (by have := HM.out; omega)
    have h1 := hcx k (by have := HN.out; omega)
    have h2 := hcy k (by have := HM.out; omega)
    have hgx : xs[k]? = some (xs.getD k 0) := by
     have := HN.out
     simp [List.getD, show k < xs.length by omega]
    have hgy : ys[k]? = some (ys.getD k 0) := by
     have := HM.out
     simp [List.getD, show k < ys.length by omega]
    obtain ⟨x, hxk⟩ := zl (xs.getD k 0)
    obtain ⟨y, hyk⟩ := zl (ys.getD k 0)
    rw [hxk] at h1 hgx
    rw [hyk] at h2 hgy
    have HGX := hide hgx; have HGY := hide hgy
    clear hcx hcy hgx hgy hxk hyk
    by_cases hxy : x = y
    ·subst hxy
     go_wp2
     go_quiet (fail)
     go_wp2
     go_roundw
     case rel => exact ⟨k + 1, _, by go_num, by omega, jpw HE.out HGX.out HGY.out, rfl⟩
     case measure => simp [intOf]; omega
    ·have hne := hide (decide_eq_false (show ¬ xs = ys from fun h => hxy (by have h1 := HGX.out; have h2 := HGY.out; rw [h, h2] at h1; exact (Option.some.inj h1).symm)))
     go_wp2
     go_quiet (fail)
     go_wp2
     go_ret
     exact ⟨ja1 hne.out.symm, _, World.drewN_drewN _ _ _⟩
   ·go_wp2
    go_ret
    refine ⟨?_, q, rfl⟩
    have h1 := HN.out; have h2 := HM.out; have h3 := HE.out
    rw [List.take_of_length_le (by omega), List.take_of_length_le (by omega)] at h3
    simp [h3]
 ·have hne : xs ≠ ys := fun h => hnm (by have := HN.out; have := HM.out; subst h; omega)
  have hd := hide (decide_eq_false hne)
  clear hne
  go_enter Tryz.func19, Tryz.ntmps19
  go_wp2
  go_ret
  exact ⟨ja1 hd.out.symm, 0, rfl⟩
attribute [local go_sem ↓] Go.wp_at_zero Go.wp_at_succ
section
variable {P : Program} (w : World)
end
theorem Ow.row {w : World} {base : Nat} {e : TypeId} {k : IntKind} {v : Value} {zs : List Int} (h : Ow w base e k v zs) : ∀ g, v.ownBlock = some g -> base <= g /\ ∃ c fz, w.heap[g]? = some (.cells c e fz) := fun g hg => by
 rcases h.2 with ⟨rfl, _⟩ | ⟨g', cap, cur, rfl, hb, hgg, _⟩
 ·simp [Value.ownBlock] at hg
 ·simp [Value.ownBlock] at hg
  subst hg
  exact ⟨hb, cur, _, hgg⟩
section
variable {w w1 w2 : World} {g base : Nat} {zs ys : List Int}
end
theorem Vec.each {α : Type} {s : Nat} {P : Nat -> Nat -> α -> Prop} {S : Nat -> Prop} {v : Value} {xs : List α} (h : Vec s P S v xs) : ∀ x ∈ xs, ∃ b o, P b o x := fun x hx => by
 obtain ⟨A, c, -, -, -, h3⟩ := h
 obtain ⟨j, hj⟩ := List.getElem?_of_mem hx
 obtain ⟨b, o, -, -, hc⟩ := h3 (by have := (List.getElem?_eq_some_iff.1 hj).1; omega)
 exact ⟨b, _, hc j x hj⟩
theorem IntsV.range {w : World} {S : Nat -> Prop} {v : Value} {zs : List Int} (h : IntsV w S v zs) : ∀ z ∈ zs, i64R z := fun z hz => by
 obtain ⟨b, o, hc⟩ := Vec.each h z hz
 exact hc.2
end Go.Proofs.YthbnbaikdcfbmaaGreatDoor
