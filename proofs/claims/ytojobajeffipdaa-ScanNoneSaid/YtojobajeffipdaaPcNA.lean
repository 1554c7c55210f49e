/- Layer 5: the blocks that follow one another, in plain lists; the contracts of flow.there, flow.Next and of the reference's Next. Condition: what comes next is there. -/
import Derived.Test.YtojobajeffipdaaPcMB
import Derived.Test.YtojobajeffipdaaPcSB
import Derived.Test.YtojobajeffipdaaPcMR
import Derived.Test.YtojobajeffipdaaProg
import Derived.Maps.AppendAt
set_option linter.unusedSimpArgs false
set_option linter.unusedVariables false
namespace Go.Proofs.Ytojobajeffipdaa
open Go.RowKit

def nextB (b : List InsV) : List Int := match b.getLast? with | some x => nextL x | none => []
def nxt (f : FunV) (k : Nat) : List Int := match f.blocks[k]? with | some b => nextB b | none => []
def FlowOk (f : FunV) : Prop := f.blocks.length ≤ 40 ∧ (∀ b ∈ f.blocks, b.length ≤ 40) ∧ ∀ k v, v ∈ nxt f k → 0 ≤ v ∧ v < f.blocks.length
theorem nextL_nodup (x : InsV) : (nextL x).Nodup := by
  unfold nextL
  split
  · simp
  · split
    · rename_i h1 h2
      have : x.n ≠ x.m := fun h => h1 (.inr ⟨h2, h⟩)
      simp; omega
    · simp
theorem nxt_nodup (f : FunV) (k : Nat) : (nxt f k).Nodup := by
  unfold nxt nextB
  split
  · split
    · exact nextL_nodup _
    · simp
  · simp
theorem nxt_last {f : FunV} {k mp : Nat} {b : List InsV} {x : InsV} (hb : f.blocks[k]? = some b) (hm : b.length = mp + 1) (hx : b[mp]? = some x) : nxt f k = nextL x := by
  unfold nxt nextB
  rw [hb]
  show (match b.getLast? with | some x => nextL x | none => []) = _
  rw [List.getLast?_eq_getElem?, hm, Nat.add_sub_cancel, hx]
theorem nxt_none {f : FunV} {k : Nat} {b : List InsV} (hb : f.blocks[k]? = some b) (hm : b.length = 0) : nxt f k = [] := by
  unfold nxt nextB
  rw [hb, List.eq_nil_of_length_eq_zero hm]
  rfl
end Go.Proofs.Ytojobajeffipdaa
namespace Go.Proofs.Ytojobajeffipdaa
open Go.RowKit

end Go.Proofs.Ytojobajeffipdaa
namespace Go.Proofs.Ytojobajeffipdaa
open Go.RowKit

/-- The slice whose address is A holds the edges es, in a block below B. -/
def EdgS (w : World) (B : Nat) (A : Option Addr) (es : List (Int × Int)) : Prop :=
  0 < es.length → ∃ b o, A = some ⟨b, o, none⟩ ∧ b < B ∧ ∀ (j : Nat) (p : Int × Int), es[j]? = some p → w.cell? ⟨b, o + j * 2, none⟩ = some (.int .i64 p.1) ∧ w.cell? ⟨b, o + j * 2 + 1, none⟩ = some (.int .i64 p.2)
section
variable {w w' : World} {base B B' : Nat} {v : Value} {A : Option Addr} {es : List (Int × Int)}
theorem EdgS.below (h : EdgS w B A es) (hb : Below B w w') : EdgS w' B A es := fun hp => by
  obtain ⟨b, o, e, hbb, hc⟩ := h hp
  exact ⟨b, o, e, hbb, fun j p hj => ⟨(hb.cell (p := ⟨b, o + j * 2, none⟩) hbb).trans (hc j p hj).1, (hb.cell (p := ⟨b, o + j * 2 + 1, none⟩) hbb).trans (hc j p hj).2⟩⟩
end
def edgesTo (f : FunV) (k : Nat) : List (Int × Int) := (List.range k).flatMap (fun i => (nxt f i).map (fun v => ((i : Int), v)))
def edgesN (f : FunV) : List (Int × Int) := edgesTo f f.blocks.length
end Go.Proofs.Ytojobajeffipdaa
namespace Go.Proofs.Ytojobajeffipdaa
open Go.RowKit

end Go.Proofs.Ytojobajeffipdaa
namespace Go.Proofs.Ytojobajeffipdaa
open Go.RowKit

end Go.Proofs.Ytojobajeffipdaa
namespace Go.Proofs.Ytojobajeffipdaa
open Go.RowKit

end Go.Proofs.Ytojobajeffipdaa
namespace Go.Proofs.Ytojobajeffipdaa
open Go.RowKit

def prevN (f : FunV) (z : Int) : List Int := ((edgesN f).filter (fun e => e.2 == z)).map Prod.fst
end Go.Proofs.Ytojobajeffipdaa
namespace Go.Proofs.Ytojobajeffipdaa
open Go.RowKit

end Go.Proofs.Ytojobajeffipdaa
namespace Go.Proofs.Ytojobajeffipdaa
open Go.RowKit

end Go.Proofs.Ytojobajeffipdaa
