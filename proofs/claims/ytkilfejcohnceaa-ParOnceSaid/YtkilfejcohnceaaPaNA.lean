/- Texts of several names, of which only what the statement needs is kept. -/
import Derived.Test.YtkilfejcohnceaaPaMD
import Derived.Test.YtkilfejcohnceaaPaMC
import Derived.Test.YtkilfejcohnceaaPaMB
import Derived.Test.YtkilfejcohnceaaPaMV
import Derived.Test.YtkilfejcohnceaaPaSB
import Derived.Test.YtkilfejcohnceaaProg
import Derived.StillTailTactics
import Derived.Maps.AppendAt
/- Plain mathematics: what is read has just those bytes (programs); an error stays. No condition. -/
set_option linter.unusedSimpArgs false
set_option linter.unusedVariables false
namespace Go.Proofs.Ytkilfejcohnceaa
open Go.RowKit

/-- Behind an error nothing is read. -/
def Stk {α : Type} (T : St → α × St) : Prop := ∀ s, s.2 ≠ 0 → (T s).2 = s
theorem Stk.ok {α : Type} {T : St → α × St} (h : Stk T) {s : St} (he : (T s).2.2 = 0) : s.2 = 0 := by
  by_cases hs : s.2 = 0
  · exact hs
  · rw [h s hs] at he; exact absurd he hs

end Go.Proofs.Ytkilfejcohnceaa
namespace Go.Proofs.Ytkilfejcohnceaa
open Go.RowKit

end Go.Proofs.Ytkilfejcohnceaa
namespace Go.Proofs.Ytkilfejcohnceaa
open Go.RowKit

end Go.Proofs.Ytkilfejcohnceaa
namespace Go.Proofs.Ytkilfejcohnceaa
open Go.RowKit

end Go.Proofs.Ytkilfejcohnceaa

/- The contracts of the reference's SameIns, SameFunc, Same. No condition. -/
set_option linter.unusedSimpArgs false
set_option linter.unusedVariables false
namespace Go.Proofs.Ytkilfejcohnceaa
open Go.RowKit

end Go.Proofs.Ytkilfejcohnceaa
namespace Go.Proofs.Ytkilfejcohnceaa
open Go.RowKit

theorem Sl.other {w : World} {B g j : Nat} {A : Option Addr} {zs : List Int} {v : Value} (h : Sl w B .u8 A zs) (hg : ∀ a, A = some a → a.block ≠ g) : Sl (w.setCell ⟨g, j, none⟩ v) B .u8 A zs := fun hp => by
  obtain ⟨b, o, e, hb, hc⟩ := h hp
  refine ⟨b, o, e, hb, fun i hi => ?_⟩
  have hne : b ≠ g := hg _ e
  rw [← hc i hi]
  exact World.cell?_of_block (a := ⟨b, o + i, none⟩) (heap_setCell_other w ⟨g, j, none⟩ b v hne)
end Go.Proofs.Ytkilfejcohnceaa
namespace Go.Proofs.Ytkilfejcohnceaa
open Go.RowKit

end Go.Proofs.Ytkilfejcohnceaa
namespace Go.Proofs.Ytkilfejcohnceaa
open Go.RowKit

end Go.Proofs.Ytkilfejcohnceaa

/- Layer 5: the blocks that follow one another, in plain lists; the contracts of flow.there, flow.Next and of the reference's Next. Condition: what comes next is there. -/
set_option linter.unusedSimpArgs false
set_option linter.unusedVariables false
namespace Go.Proofs.Ytkilfejcohnceaa
open Go.RowKit

def nextB (b : List InsV) : List Int := match b.getLast? with | some x => nextL x | none => []
def nxt (f : FunV) (k : Nat) : List Int := match f.blocks[k]? with | some b => nextB b | none => []
def FlowOk (f : FunV) : Prop := f.blocks.length ≤ 40 ∧ (∀ b ∈ f.blocks, b.length ≤ 40) ∧ ∀ k v, v ∈ nxt f k → 0 ≤ v ∧ v < f.blocks.length
theorem nextL_nodup (x : InsV) : (nextL x).Nodup := by
  unfold nextL
  split
  · simp
  · split
    · rename_i h1 h2
      have : x.n ≠ x.m := fun h => h1 (.inr ⟨h2, h⟩)
      simp; omega
    · simp
theorem nxt_nodup (f : FunV) (k : Nat) : (nxt f k).Nodup := by
  unfold nxt nextB
  split
  · split
    · exact nextL_nodup _
    · simp
  · simp
theorem nxt_last {f : FunV} {k mp : Nat} {b : List InsV} {x : InsV} (hb : f.blocks[k]? = some b) (hm : b.length = mp + 1) (hx : b[mp]? = some x) : nxt f k = nextL x := by
  unfold nxt nextB
  rw [hb]
  show (match b.getLast? with | some x => nextL x | none => []) = _
  rw [List.getLast?_eq_getElem?, hm, Nat.add_sub_cancel, hx]
theorem nxt_none {f : FunV} {k : Nat} {b : List InsV} (hb : f.blocks[k]? = some b) (hm : b.length = 0) : nxt f k = [] := by
  unfold nxt nextB
  rw [hb, List.eq_nil_of_length_eq_zero hm]
  rfl
end Go.Proofs.Ytkilfejcohnceaa
namespace Go.Proofs.Ytkilfejcohnceaa
open Go.RowKit

theorem Sl.vec {w : World} {B c : Nat} {A : Option Addr} {zs : List Int} (h : Sl w B .i64 A zs) (hc : zs.length ≤ c) (hm : c ≤ 9223372036854775807) (hr : ∀ z ∈ zs, i64R z) : IntsV w (· < B) (.slice A zs.length c) zs := by
  refine ⟨A, c, rfl, hc, hm, fun hp => ?_⟩
  obtain ⟨b, o, e2, hb, hcc⟩ := h hp
  refine ⟨b, o, e2, hb, fun j x hj => ⟨?_, hr x (List.mem_of_getElem? hj)⟩⟩
  have := hcc j (List.getElem?_eq_some_iff.1 hj).1
  rw [Nat.mul_one, this]
  simp [List.getD, hj]
end Go.Proofs.Ytkilfejcohnceaa
namespace Go.Proofs.Ytkilfejcohnceaa
open Go.RowKit

/-- The slice whose address is A holds the edges es, in a block below B. -/
def EdgS (w : World) (B : Nat) (A : Option Addr) (es : List (Int × Int)) : Prop :=
  0 < es.length → ∃ b o, A = some ⟨b, o, none⟩ ∧ b < B ∧ ∀ (j : Nat) (p : Int × Int), es[j]? = some p → w.cell? ⟨b, o + j * 2, none⟩ = some (.int .i64 p.1) ∧ w.cell? ⟨b, o + j * 2 + 1, none⟩ = some (.int .i64 p.2)
section
variable {w w' : World} {base B B' : Nat} {v : Value} {A : Option Addr} {es : List (Int × Int)}
theorem EdgS.below (h : EdgS w B A es) (hb : Below B w w') : EdgS w' B A es := fun hp => by
  obtain ⟨b, o, e, hbb, hc⟩ := h hp
  exact ⟨b, o, e, hbb, fun j p hj => ⟨(hb.cell (p := ⟨b, o + j * 2, none⟩) hbb).trans (hc j p hj).1, (hb.cell (p := ⟨b, o + j * 2 + 1, none⟩) hbb).trans (hc j p hj).2⟩⟩
theorem EdgS.more (h : EdgS w B A es) (hB : B ≤ B') : EdgS w B' A es := fun hp => by
  obtain ⟨b, o, e, hb, hc⟩ := h hp
  exact ⟨b, o, e, by omega, hc⟩
end
def edgesTo (f : FunV) (k : Nat) : List (Int × Int) := (List.range k).flatMap (fun i => (nxt f i).map (fun v => ((i : Int), v)))
def edgesN (f : FunV) : List (Int × Int) := edgesTo f f.blocks.length
end Go.Proofs.Ytkilfejcohnceaa
namespace Go.Proofs.Ytkilfejcohnceaa
open Go.RowKit

end Go.Proofs.Ytkilfejcohnceaa
namespace Go.Proofs.Ytkilfejcohnceaa
open Go.RowKit

end Go.Proofs.Ytkilfejcohnceaa
namespace Go.Proofs.Ytkilfejcohnceaa
open Go.RowKit

end Go.Proofs.Ytkilfejcohnceaa
namespace Go.Proofs.Ytkilfejcohnceaa
open Go.RowKit

def prevN (f : FunV) (z : Int) : List Int := ((edgesN f).filter (fun e => e.2 == z)).map Prod.fst
end Go.Proofs.Ytkilfejcohnceaa
namespace Go.Proofs.Ytkilfejcohnceaa
open Go.RowKit

end Go.Proofs.Ytkilfejcohnceaa
namespace Go.Proofs.Ytkilfejcohnceaa
open Go.RowKit

end Go.Proofs.Ytkilfejcohnceaa
