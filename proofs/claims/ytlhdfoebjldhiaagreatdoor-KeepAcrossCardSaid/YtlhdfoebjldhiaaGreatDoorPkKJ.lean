/- Layer 8, the program: contracts of Set, Fresh, and a law of ranging over a map of states. Condition: the table of parts reads as listed; the function is one of a program that may be. -/
import Derived.Test.YtlhdfoebjldhiaaGreatDoorPkKI
set_option linter.unusedSimpArgs false
set_option linter.unusedVariables false
namespace Go.Proofs.YtlhdfoebjldhiaaGreatDoor
open Go.RowKit Go.Maps

/-- What holds at the beginning of a block, whichever number it has. -/
def KAtZ (f : FunV) (z : Int) (s : KSt) : Prop := (∃ b : Nat, z = b ∧ KAt f b s) ∨ (z < 0 ∧ s = ([], []))
theorem KAtZ.one {f : FunV} {z : Int} {s t : KSt} (h : KAtZ f z s) (h' : KAtZ f z t) : s = t := by
  rcases h with ⟨b, rfl, h⟩ | ⟨h1, h2⟩ <;> rcases h' with ⟨c, e, h'⟩ | ⟨h1', h2'⟩
  · obtain rfl : b = c := by omega
    exact h.one h'
  · omega
  · omega
  · rw [h2, h2']
theorem KAtZ.good {f : FunV} {z : Int} {s : KSt} (h : KAtZ f z s) : GoodK f s := by
  rcases h with ⟨b, rfl, h⟩ | ⟨h1, h2⟩
  · exact h.good
  · rw [h2]; exact GoodK.nil f
theorem SetV.nil (w : World) : SetV w (.slice none 0 0) [] := ⟨none, 0, rfl, Nat.le_refl _, by omega, Sl.nil _ _ _ _⟩
/-- The step of a range over a map of states: whichever entry comes. -/
theorem wpList_next_map {w : World} {ops : Array Oper} {rest : List Oper} {o : Oper} {a : Act} {Q : Exit → Act → World → Prop} (hg : o.guard = none) (it : Operand) (hop : o.op = Op.next it false) {b r n : Nat} {D : DataW Value} {f : FunV} {L : Nat → Option KSt} {M : Nat → Prop} {w0 : World} (left : Lit → Bool) (cnt : Nat)
    (hh : ∀ kl, Maps.has D kl = true → ∃ k : Nat, k < f.blocks.length ∧ kl = litN k) (hL : ∀ k : Nat, k < f.blocks.length → Maps.has D (litN k) = (L k).isSome) (hv : ∀ k s, L k = some s → ∃ v1 v2, (∀ zd, D.atKey (litN k) zd = .held (.agg #[v1, v2])) ∧ SetM w0 M v1 s.1 ∧ SetM w0 M v2 s.2)
    (hit : a.eval it = .pointer (some ⟨r, 0, none⟩)) (h : w.ranges Tryz.prog 3 RH b r n D left cnt)
    (hDone : (∀ kl, left kl = false) → wpList Tryz.prog ops Q rest (a.put o.dst (.tuple #[.bool false])) w)
    (hMore : ∀ (c : Nat) (s : KSt) (A1 A2 : Option Addr) (d1 d2 : Nat) (w' : World) (cnt' : Nat), c < f.blocks.length → L c = some s → SetM w0 M (.slice A1 s.1.length d1) s.1 → SetM w0 M (.slice A2 s.2.length d2) s.2 → w'.ranges Tryz.prog 3 RH b r n D (fun z => left z && !z.sameKey (litN c)) cnt' → cnt' < cnt → w.grownBy w' (some r) → w'.heap.size = w.heap.size →
      (Instr.entry (.pointer (some ⟨r, 0, none⟩))).run Tryz.prog w' = .ok (.tuple #[.int .i64 (c : Int), .agg #[.slice A1 s.1.length d1, .slice A2 s.2.length d2]]) w' → wpList Tryz.prog ops Q rest (a.put o.dst (.tuple #[.bool true, .int .i64 (c : Int), .agg #[.slice A1 s.1.length d1, .slice A2 s.2.length d2]])) w') :
    wpList Tryz.prog ops Q (o :: rest) a w := by
  refine wpList_next_ranges (α := Int) (β := Value) w hg it hop 3 keyed_int RH (Value.int .i64) (fun v => v) (fun key kl hkey => ?_) (fun v y hv => ⟨v, rfl⟩) b r n D left cnt hit h (fun _ h => hDone h) (fun x v kl y w' cnt' hkey hlk hv' hat hrg hlt hgr hsz hen => ?_)
  · obtain ⟨x, rfl, -⟩ := keyOf_int_inv (q := .i64) (by kernel_rfl) hkey
    exact ⟨x, rfl⟩
  · have hy : y.1 = .held v := by
      have e := Option.some.inj hv'
      exact (congrArg Prod.fst e).symm
    have hhas := has_true_of_atKey hat
    obtain ⟨c, hc, rfl⟩ := hh kl hhas
    have hx : x = (c : Int) := by
      obtain ⟨x', e, e2, -⟩ := keyOf_int_inv (q := .i64) (by kernel_rfl) hkey
      cases e
      have e3 : Lit.int .i64 (c : Int) = Lit.int .i64 x := e2
      exact (Lit.int.inj e3).2.symm
    subst hx
    have hsome := (hL c hc).symm.trans hhas
    obtain ⟨s, hs⟩ := Option.isSome_iff_exists.1 hsome
    obtain ⟨v1, v2, e, g1, g2⟩ := hv c s hs
    have e2 := (hat (.held v)).symm.trans (e (.held v))
    rw [hy] at e2
    injection e2 with e2
    subst e2
    have G1 := g1
    have G2 := g2
    obtain ⟨A1, d1, rfl, -, -, -, -⟩ := g1
    obtain ⟨A2, d2, rfl, -, -, -, -⟩ := g2
    exact hMore c s A1 A2 d1 d2 w' cnt' hc hs G1 G2 hrg hlt hgr hsz hen
end Go.Proofs.YtlhdfoebjldhiaaGreatDoor
