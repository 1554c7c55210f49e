/- The contracts of shape's within, isValue, Last, and of what strings.ContainsAny calls. No condition but on letters. -/
import Derived.Test.YtkilfejcohnceaaPaMB
import Derived.Test.YtkilfejcohnceaaProg
import Derived.Lib.Bytealg
import Derived.Lib.Walk
import Derived.Deep.Cut
import Derived.Laws.EntriesVeiled
set_option linter.unusedSimpArgs false
set_option linter.unusedVariables false
namespace Go.Proofs.Ytkilfejcohnceaa
open Go.RowKit

def inB (lo hi n : Int) : Bool := decide (lo ≤ n) && decide (n ≤ hi)
def valB (k : Int) : Bool := k == 0 || k == 1
def lastB (op : Int) : Bool := op == 21 || (op == 22 || op == 23)
end Go.Proofs.Ytkilfejcohnceaa
namespace Go.Proofs.Ytkilfejcohnceaa
open Go.RowKit

end Go.Proofs.Ytkilfejcohnceaa
namespace Go.Proofs.Ytkilfejcohnceaa
open Go.RowKit

def refB (kinds : List Int) (v : Int) : Bool := inB 0 ((kinds.length : Int) - 1) v && decide (kinds[v.toNat]? = some 1)
def baseB4 (kinds : List Int) (k b : Int) : Bool := if k = 2 then refB kinds b else valB k && b == -1
end Go.Proofs.Ytkilfejcohnceaa
namespace Go.Proofs.Ytkilfejcohnceaa
open Go.RowKit

end Go.Proofs.Ytkilfejcohnceaa
namespace Go.Proofs.Ytkilfejcohnceaa
open Go.RowKit

def endsB (l : List InsV) : Bool := (l.take (l.length - 1)).all (fun x => !lastB x.op) && (l.drop (l.length - 1)).all (fun x => lastB x.op)
def blockB4 (b : List InsV) : Bool := inB 1 40 (b.length : Int) && endsB b
end Go.Proofs.Ytkilfejcohnceaa
namespace Go.Proofs.Ytkilfejcohnceaa
open Go.RowKit

/-- What the closures of a scope hold: the function's cells, the program's. -/
def ScopeP (w : World) (B hf hp : Nat) (p : List FunV) (f : FunV) : Prop :=
  ∃ Ak ck As cs A c, w.cell? ⟨hf, 0, none⟩ = some (.slice Ak f.kinds.length ck) ∧ w.cell? ⟨hf, 4, none⟩ = some (.slice As f.blocks.length cs) ∧ w.cell? ⟨hp, 0, none⟩ = some (.slice A p.length c) ∧
    FunsV w (· < B) (.slice A p.length c) p ∧ (hf < w.heap.size ∧ hp < w.heap.size ∧ B ≤ w.heap.size) ∧ f.kinds.length ≤ 9223372036854775807 ∧ f.blocks.length ≤ 9223372036854775807
theorem ScopeP.below {w w1 : World} {B hf hp : Nat} {p : List FunV} {f : FunV} (h : ScopeP w B hf hp p f) (hb : Below w.heap.size w w1) : ScopeP w1 B hf hp p f := by
  obtain ⟨Ak, ck, As, cs, A, c, h1, h2, h3, h4, ⟨h5, h6, h7⟩, h8⟩ := h
  have hs := hb.size
  exact ⟨Ak, ck, As, cs, A, c, (hb.cell (p := ⟨hf, 0, none⟩) h5).trans h1, (hb.cell (p := ⟨hf, 4, none⟩) h5).trans h2, (hb.cell (p := ⟨hp, 0, none⟩) h6).trans h3, h4.keep (up hb h7) (fun _ h => h), ⟨by omega, by omega, by omega⟩, h8⟩
end Go.Proofs.Ytkilfejcohnceaa
