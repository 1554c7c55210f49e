/- The contracts of the writer's put and putSigned. Condition: no more than 2^30 bytes. -/
import Derived.Test.YtkilfejcohnceaaPaMB
import Derived.Test.YtkilfejcohnceaaPaMV
import Derived.Deep.RegionHeld3
import Derived.Deep.RegionLaw
import Derived.Deep.AppendLies
import Derived.Deep.DrawnRows
set_option linter.unusedSimpArgs false
set_option linter.unusedVariables false
namespace Go.Proofs.Ytkilfejcohnceaa
open Go.RowKit
attribute [local go_sem ↓] Go.wp_at_zero Go.wp_at_succ

section
variable {P : Program} (w : World)
end

theorem Ow.row {w : World} {base : Nat} {e : TypeId} {k : IntKind} {v : Value} {zs : List Int} (h : Ow w base e k v zs) : ∀ g, v.ownBlock = some g → base ≤ g ∧ ∃ c fz, w.heap[g]? = some (.cells c e fz) := fun g hg => by
  rcases h.2 with ⟨rfl, _⟩ | ⟨g', cap, cur, rfl, hb, hgg, _⟩
  · simp [Value.ownBlock] at hg
  · simp [Value.ownBlock] at hg
    subst hg
    exact ⟨hb, cur, _, hgg⟩
theorem Ow.apart {w : World} {base g : Nat} {k : IntKind} {v : Value} {zs : List Int} {cs : Array Value} {e T : TypeId} (h : Ow w base e k v zs) (hb : Box w g cs T) (hT : T ≠ e) : v.ownBlock ≠ some g := fun hv => by
  obtain ⟨-, c, fz, hc⟩ := h.row g hv
  rw [Box] at hb
  rw [hb] at hc
  injection hc with hc
  injection hc with _ h2 _
  exact hT h2
end Go.Proofs.Ytkilfejcohnceaa
namespace Go.Proofs.Ytkilfejcohnceaa
open Go.RowKit

def encPart (x : InsV) (c : Nat) : List Int := if c = 110 then enc (zz x.n) else if c = 76 then encL [(x.args.length : Int)] ++ encL x.args else encL [fieldOf c x]
def encIns (x : InsV) : List Int := encL [x.op] ++ (partsN x.op).flatMap (encPart x)

theorem IntsV.lit (w : World) (l : List Int) (cs : Array Value) (T : TypeId) (h : cs.toList = l.map (Value.int .i64)) (hr : ∀ z ∈ l, i64R z) (hl : l.length ≤ 100) :
    IntsV (w.alloc (.cells cs T)) (· < (w.alloc (.cells cs T)).heap.size) (.slice (some ⟨w.heap.size, 0, none⟩) l.length l.length) l := by
  refine ⟨_, _, rfl, Nat.le_refl _, by omega, fun _ => ⟨_, _, rfl, by simp, fun j z hj => ⟨?_, hr z (List.mem_of_getElem? hj)⟩⟩⟩
  rw [(Box.new w cs T).cell (0 + j * 1) (v := .int .i64 z) ?_ |>.1]
  rw [← Array.getElem?_toList, h, List.getElem?_map, Nat.zero_add, Nat.mul_one, hj]; rfl
section
variable {w w1 w2 : World} {g base : Nat} {zs ys : List Int}
end
end Go.Proofs.Ytkilfejcohnceaa
namespace Go.Proofs.Ytkilfejcohnceaa
open Go.RowKit

def encVar (kb : Int × Int) : List Int := encL [kb.1] ++ (if kb.1 = 2 then encL [kb.2] else [])
def encBlk (b : List InsV) : List Int := encL [(b.length : Int)] ++ b.flatMap encIns
def encFun (f : FunV) : List Int := encL [(f.kinds.length : Int)] ++ (f.kinds.zip f.base).flatMap encVar ++ encL [f.params, f.result, (f.blocks.length : Int)] ++ f.blocks.flatMap encBlk
def encProg (p : List FunV) : List Int := encL [(p.length : Int)] ++ p.flatMap encFun
end Go.Proofs.Ytkilfejcohnceaa
namespace Go.Proofs.Ytkilfejcohnceaa
open Go.RowKit

def InsRR (x : InsV) : Prop := InsR x ∧ ∀ z ∈ x.args, i64R z
def FunR (f : FunV) : Prop := i64R f.params ∧ i64R f.result ∧ (∀ z ∈ f.kinds, i64R z) ∧ (∀ z ∈ f.base, i64R z) ∧ ∀ b ∈ f.blocks, ∀ x ∈ b, InsRR x
theorem Vec.each {α : Type} {s : Nat} {P : Nat → Nat → α → Prop} {S : Nat → Prop} {v : Value} {xs : List α} (h : Vec s P S v xs) : ∀ x ∈ xs, ∃ b o, P b o x := fun x hx => by
  obtain ⟨A, c, -, -, -, h3⟩ := h
  obtain ⟨j, hj⟩ := List.getElem?_of_mem hx
  obtain ⟨b, o, -, -, hc⟩ := h3 (by have := (List.getElem?_eq_some_iff.1 hj).1; omega)
  exact ⟨b, _, hc j x hj⟩
theorem IntsV.range {w : World} {S : Nat → Prop} {v : Value} {zs : List Int} (h : IntsV w S v zs) : ∀ z ∈ zs, i64R z := fun z hz => by
  obtain ⟨b, o, hc⟩ := Vec.each h z hz
  exact hc.2
theorem FunsV.range {w : World} {S : Nat → Prop} {v : Value} {p : List FunV} (h : FunsV w S v p) : ∀ f ∈ p, FunR f := fun f hf => by
  obtain ⟨b, o, vk, vb, vs, -, hi⟩ := Vec.each h f hf
  obtain ⟨h1, h2, h3, h4, h5⟩ := hi
  refine ⟨h4, h5, h1.range, h2.range, fun bl hbl x hx => ?_⟩
  obtain ⟨b', o', v', -, hb⟩ := Vec.each h3 bl hbl
  obtain ⟨b2, o2, va, -, hx2⟩ := Vec.each hb x hx
  exact ⟨hx2.2, hx2.1.range⟩

/-- What Encode answers: bytes, and an error's number. -/
def encR (p : List FunV) : List Int × Nat := if cntB p = true then (if p.all funMayB = true then (encProg p, 0) else ([], 1)) else ([], 9)
end Go.Proofs.Ytkilfejcohnceaa
namespace Go.Proofs.Ytkilfejcohnceaa
open Go.RowKit

/-- What Encode answers, in memory. -/
def EncA (W : World) (p : List FunV) (e : Ending) (w' : World) : Prop :=
  ∃ A c, e = .returned (.tuple #[.slice A (encR p).1.length c, .int .i64 ((encR p).2 : Int)]) ∧ Sl w' w'.heap.size .u8 A (encR p).1 ∧ (encR p).1.length ≤ c ∧ c ≤ 9223372036854775807 ∧ (encR p).1.length ≤ 2000000 ∧ Below W.heap.size W w'
theorem EncA.no {W w' : World} {p : List FunV} {k : Nat} (h : encR p = ([], k)) (hb : Below W.heap.size W w') : EncA W p (.returned (.tuple #[.slice none 0 0, .int .i64 (k : Int)])) w' :=
  ⟨none, 0, by rw [h]; rfl, by rw [h]; exact Sl.nil _ _ _ _, by rw [h]; exact Nat.le_refl _, by omega, by rw [h]; exact Nat.zero_le _, hb⟩
end Go.Proofs.Ytkilfejcohnceaa
namespace Go.Proofs.Ytkilfejcohnceaa
open Go.RowKit

end Go.Proofs.Ytkilfejcohnceaa
