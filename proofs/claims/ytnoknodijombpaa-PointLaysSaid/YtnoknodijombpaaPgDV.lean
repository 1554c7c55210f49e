/- The statement EdgeSplits, walked, by what the reference's Copy answers. -/
import Derived.Test.YtnoknodijombpaaPgDQ
import Derived.Test.YtnoknodijombpaaPgDU
import Derived.Deep.RegionHeld3
set_option linter.unusedSimpArgs false
set_option linter.unusedVariables false
namespace Go.Proofs.Ytnoknodijombpaa
open Go.RowKit

def zeroF : FunV := ⟨[], [], 0, 0, []⟩
def outF (f : FunV) : FunV := if fitsB f = true then splitF f else zeroF
def outE (b : Bool) : Int := if b = true then 0 else 9
def outP (p : List FunV) : List FunV := if p.all fitsB = true then p.map splitF else []
theorem zero_funI (w : World) (S : Nat → Prop) : FunI w S (.slice none 0 0) (.slice none 0 0) (.slice none 0 0) zeroF := ⟨Vec.nil _ _ _, Vec.nil _ _ _, Vec.nil _ _ _, by unfold zeroF i64R; simp, by unfold zeroF i64R; simp⟩
def OutA (f : FunV) (w : World) (e : Ending) (w' : World) : Prop := ∃ A1 k1 A2 k2 A3 k3, e = .returned (.tuple #[.agg #[.slice A1 (outF f).kinds.length k1, .slice A2 (outF f).base.length k2, .int .i64 (outF f).params, .int .i64 (outF f).result, .slice A3 (outF f).blocks.length k3], .int .i64 (outE (fitsB f))]) ∧ FunI w' (· < w'.heap.size) (.slice A1 (outF f).kinds.length k1) (.slice A2 (outF f).base.length k2) (.slice A3 (outF f).blocks.length k3) (outF f) ∧ Below w.heap.size w w'
theorem SplA.out {f : FunV} {w w' w0 : World} {e : Ending} {vk vb vs : Value} {B : Nat} (h : SplA f w e w') (hi : FunI w0 (· < B) vk vb vs f) : OutA f w e w' := by
  unfold OutA outF outE
  by_cases hf : fitsB f = true
  · rw [if_pos hf, if_pos hf]
    obtain ⟨v1, v2, v3, l, h1, h2, h3, h4, h5, h6⟩ := h.1 hf
    have hF := spl_funI hi h2 h3 h4 h5
    obtain ⟨A1, k1, e1, -, -⟩ := hF.1.open'
    obtain ⟨A2, k2, e2, -, -⟩ := hF.2.1.open'
    obtain ⟨A3, k3, e3, -, -⟩ := hF.2.2.1.open'
    subst e1; subst e2; subst e3
    exact ⟨A1, k1, A2, k2, A3, k3, h1, hF, h6⟩
  · rw [if_neg hf, if_neg hf]
    obtain ⟨h1, h2⟩ := h.2 (Bool.eq_false_iff.2 hf)
    exact ⟨none, 0, none, 0, none, 0, h1, zero_funI _ _, h2⟩
def OutW (p : List FunV) (w : World) (e : Ending) (w' : World) : Prop := ∃ A k, e = .returned (.tuple #[.agg #[.slice A (outP p).length k], .int .i64 (outE (p.all fitsB))]) ∧ FunsV w' (· < w'.heap.size) (.slice A (outP p).length k) (outP p) ∧ Below w.heap.size w w'
theorem WhA.out {p : List FunV} {w w' : World} {e : Ending} (h : WhA p w e w') : OutW p w e w' := by
  unfold OutW outP outE
  by_cases hf : p.all fitsB = true
  · rw [if_pos hf, if_pos hf]
    obtain ⟨v, h1, h2, h3⟩ := h.1 hf
    obtain ⟨A, k, e1, -, -⟩ := h2.open'
    subst e1
    exact ⟨A, k, h1, h2, h3⟩
  · rw [if_neg hf, if_neg hf]
    obtain ⟨h1, h2⟩ := h.2 (Bool.eq_false_iff.2 hf)
    exact ⟨none, 0, h1, Vec.nil _ _ _, h2⟩
/-- What the reference's Copy answers. -/
def CopyA (f : FunV) (W : World) (vk vb vs : Value) : Prop := Calls Try.prog 34 #[.agg #[vk, vb, .int .i64 f.params, .int .i64 f.result, vs]] W fun e w' => ∃ vk' vb' vs' l, e = .returned (.agg #[vk', vb', .int .i64 f.params, .int .i64 f.result, vs']) ∧ Ow w' W.heap.size 3 .i64 vk' f.kinds ∧ Ow w' W.heap.size 3 .i64 vb' f.base ∧ BlkM w' W.heap.size vs' l ∧ l.map (·.1) = f.blocks ∧ Below W.heap.size W w'
end Go.Proofs.Ytnoknodijombpaa
