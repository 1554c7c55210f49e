/- Layer 17: a region that draws its order, by hand, in a round. No condition. -/
import Derived.Test.YtkilfejcohnceaaPaIP
import Derived.Test.YtkilfejcohnceaaPaTIL
set_option linter.unusedSimpArgs false
set_option linter.unusedVariables false
namespace Go.Proofs.Ytkilfejcohnceaa
open Go.RowKit

section
variable {P : Program} {F : Fence} {n : Nat} {ops : Array Oper} {Q : Exit → Act → World → Prop}
def onlyN (Q : Exit → Act → World → Prop) : Exit → Act → World → Prop
  | .normal, a, w => Q .normal a w
  | _, _, _ => False
def plainK : Op → Bool
  | .move _ | .assign _ | .load _ _ | .store _ _ _ | .fieldAddr _ _ _ | .indexAddr _ _ _ | .extract _ _ | .lookup _ _ _ _ | .mapUpdate _ _ _ _ | .mapEntry _ _ _ | .entryStore _ _ _ _ | .binOp _ _ _ _ _ => true
  | _ => false
def ResK : Result Next → Prop
  | .ok (.value _) _ => True
  | .ok .skip _ => True
  | .ok _ _ => False
  | .halt _ _ => True
theorem resK_v (s : Sem Value) (w : World) : ResK ((do pure (Next.value (← s)) : Sem Next).run P w) := by
  rw [Sem.run_bind]
  simp only [Result.andThen]
  cases s.run P w <;> simp [ResK]
theorem resK_u (s : Sem Unit) (w : World) : ResK ((do s; pure Next.skip : Sem Next).run P w) := by
  rw [Sem.run_bind]
  simp only [Result.andThen]
  cases s.run P w <;> simp [ResK]
theorem plainK_run (o : Oper) (h : plainK o.op = true) (ρ : Operand → Value) (w : World) : ResK ((execOp ρ o).run P w) := by
  unfold execOp
  cases hop : o.op <;> rw [hop] at h <;> first | (cases h; done) | exact resK_v _ w | exact resK_u _ w | (simp [ResK]; done)
theorem plainK_about (o : Oper) (h : plainK o.op = true) (ρ : Operand → Value) (w : World) : o.about P w ρ = none := by
  unfold Oper.about
  cases hop : o.op <;> rw [hop] at h <;> first | (cases h; done) | rfl
theorem plainK_defer (o : Oper) (h : plainK o.op = true) : ∀ c, o.op ≠ .defer c := fun c e => by rw [e] at h; cases h
theorem wpOpIn_plain {i : Nat} (hp : ∀ o, ops[i]? = some o → plainK o.op = true) {K K' : Act → World → Prop} (h : ∀ a w, K a w → K' a w) {a : Act} {w : World} (hh : wpOp P ops (onlyN Q) i K a w) : wpOpIn F n P ops Q i K' a w := by
  unfold wpOpIn
  unfold wpOp at hh
  cases ho : ops[i]? with
  | none => rw [ho] at hh; exact h _ _ hh
  | some o =>
    rw [ho] at hh
    simp only at hh ⊢
    have hpo := hp o ho
    split
    · rename_i hw
      rw [if_pos hw] at hh
      rcases hh with hh | ⟨-, a', w', e⟩
      · refine ⟨fun f hf => absurd hf (by rw [plainK_about o hpo]; simp), ?_⟩
        rw [Oper.semAt_eq _ _ _ (plainK_defer o hpo)]
        unfold Oper.wp at hh
        have hr := plainK_run (P := P) o hpo a.eval w
        generalize (execOp a.eval o).run P w = r at hh hr
        cases r with
        | ok x w' => cases x <;> first | exact h _ _ hh | exact hr.elim
        | halt x w' =>
          cases x <;> exact False.elim hh
      · exact False.elim e
    · rename_i hw
      rw [if_neg hw] at hh
      exact ⟨fun f hf => absurd hf (by rw [plainK_about o hpo]; simp), h _ _ hh⟩
theorem wpAnyIn_plain (hp : ∀ (i : Nat) (o : Oper), ops[i]? = some o → plainK o.op = true) {md : Region.Mode} : ∀ (fuel : Nat) (listed : Array Bool) (a : Act) (w : World), wpAny P md ops (onlyN Q) fuel listed a w → wpAnyIn F n P md ops Q fuel listed a w := by
  intro fuel
  induction fuel with
  | zero => intro listed a w h; exact ⟨h.1, h.2⟩
  | succ fuel ih =>
    intro listed a w h
    exact ⟨fun hr => h.1 hr, fun i hi => wpOpIn_plain (hp i) (fun a w => ih _ a w) (h.2 i hi)⟩
/-- A region that draws its order, by hand, inside a fence or in a round: no call in it. -/
theorem wpIn_region_til {id : Nat} {a : Act} {w : World} (S : World → Prop) (z : Nat) (hp : (ops.toList.all fun o => plainK o.op) = true) (hm : P.follows .mixedOrders = true) (hS : S w.drew)
    (h : wpTil P .any ops (onlyN Q) S z ops.size (Array.replicate ops.size false) a w.drew) : (Code.region id ops true).wpIn F n P Q a w :=
  wpIn_region_any hm (wpAnyIn_plain (fun i o ho => List.all_eq_true.1 hp o (by simpa using Array.mem_of_getElem? ho)) _ _ _ _ (wpAny_til _ _ _ _ h))
end
end Go.Proofs.Ytkilfejcohnceaa
