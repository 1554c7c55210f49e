/- What all rows of the seat share: the program's closed facts; a program among the arguments, opened; the table. Condition: the table reads as listed. -/
import Derived.Test.YtkilfejcohnceaaPaMA
import Derived.Test.YtkilfejcohnceaaPaMB
import Derived.Test.YtkilfejcohnceaaRows
import Derived.ProofKit
import Derived.OpenShut
import Derived.Deep.Slices
import Derived.Deep.Fields
import Derived.ChangeSame
import Derived.LaidMore
import Derived.LaidHandle
import Derived.LaidLaws
import Derived.ChangeArms
import Derived.Stop.Joined
set_option linter.unusedSimpArgs false
set_option linter.unusedVariables false
namespace Go.Proofs.Ytkilfejcohnceaa
open Go.ChangeShapes Go.WideShapes Go.ChangeAt Go.RowKit Go.Deep

theorem own : ownKnob Try.prog.godebug = none := by kernel_rfl
theorem laidOut : laidOutB Try.prog = true := by kernel_rfl
section
variable {H : Type} {enc : TypeId × Value → H} {W : World}
/-- A slice among what is read: things, each as its own reading tells. -/
theorem open_vec {α : Type} {t e : TypeId} {s fuel : Nat} {v : Value} {x : DataW H × List MemPlace} {P : Nat → Nat → α → Prop} (ht : Try.prog.underlying t = some (.slice e)) (hC : Try.prog.cellsOf e = s)
    (h : DataW.trod enc Try.prog W 0 (fun _ => true) true fuel t [v] = some x) (hlt : ∀ y ∈ x.2, y.block < W.heap.size)
    (hel : ∀ (b o n : Nat) (cs : List Value) (d : DataW H) (pl : List MemPlace), cs.length = s → (∀ i, i < s → W.cell? ⟨b, o + i, none⟩ = cs[i]?) → DataW.trod enc Try.prog W 0 (fun _ => true) true n e cs = some (d, pl) → (∀ y ∈ pl, y.block < W.heap.size) → ∃ a : α, P b o a) (hs : 0 < s) :
    ∃ xs : List α, Vec s P (· < W.heap.size) v xs := by
  rcases open_slice ht h with ⟨h1, -⟩ | ⟨a, len, cap, m, n, D, Pl, hcs, -, hl, hm, hmm, rfl, hi⟩
  · simp at h1
    subst h1
    exact ⟨[], Vec.nil _ _ _⟩
  · simp at hcs
    subst hcs
    simp only [if_true] at hmm
    subst hmm
    have hm' : m ≤ 9223372036854775807 := by unfold maxLen at hm; exact hm
    by_cases h0 : len = 0
    · subst h0
      exact ⟨[], some a, m, rfl, by simp, hm', fun hp => absurd hp (by simp)⟩
    · obtain ⟨b, o, spot⟩ := a
      have hspot : spot = none := by
        obtain ⟨cs', hc, -⟩ := hi 0 (by omega)
        obtain ⟨-, hlc, hat⟩ := World.cells?_some hc
        have h1 := hat 0 (by omega)
        have h2 : ∃ u, cs'[0]? = some u := ⟨_, List.getElem?_eq_getElem (by omega)⟩
        obtain ⟨u, hu⟩ := h2
        rw [hu] at h1
        simpa [Addr.add] using World.cell?_spot h1
      subst hspot
      have hb : b < W.heap.size := by
        refine hlt (.cell b o) (List.mem_append_left _ ?_)
        exact MemPlace.mem_row.2 ⟨0, Nat.mul_pos (by omega) (by omega), by simp⟩
      have key : ∀ k, k ≤ len → ∃ xs : List α, xs.length = k ∧ ∀ (j : Nat) (y : α), xs[j]? = some y → P b (o + j * s) y := by
        intro k
        induction k with
        | zero => exact fun _ => ⟨[], rfl, fun j y hj => by simp at hj⟩
        | succ k ih =>
          intro hk
          obtain ⟨xs, hxl, hx⟩ := ih (by omega)
          obtain ⟨cs', hc, htr⟩ := hi k (by omega)
          obtain ⟨-, hlc, hat⟩ := World.cells?_some hc
          rw [hC] at hlc hat
          obtain ⟨y, hy⟩ := hel b (o + k * s) n cs' (D k) (Pl k) hlc (fun i hi' => by
            have := hat i hi'
            rw [add_plain, add_plain] at this
            exact this) htr (fun z hz => hlt z (List.mem_append_right _ (List.mem_flatMap.2 ⟨k, List.mem_range.2 (by omega), hz⟩)))
          refine ⟨xs ++ [y], by simp [hxl], fun j z hj => ?_⟩
          by_cases hjl : j < xs.length
          · rw [List.getElem?_append_left hjl] at hj
            exact hx j z hj
          · have hjk : j = k := by
              have := (List.getElem?_eq_some_iff.1 hj).1
              simp at this; omega
            subst hjk
            rw [← hxl, List.getElem?_append_right (Nat.le_refl _)] at hj
            simp at hj
            subst hj
            exact hy
      obtain ⟨xs, hxl, hx⟩ := key len (Nat.le_refl _)
      exact ⟨xs, some ⟨b, o, none⟩, m, by rw [hxl], by omega, hm', fun _ => ⟨b, o, rfl, hb, hx⟩⟩
theorem int_R {n : Int} (h : (Lit.int .i64 n).wf = true) : i64R n := bounds_i64 h
theorem fields_of {t : TypeId} {fs : Array Field} {fuel : Nat} {cs : List Value} {d : DataW H} {pl : List MemPlace} (hs : Try.prog.underlying t = some (.struct fs)) (hone : oneCellFields Try.prog fs = true) (h : DataW.trod enc Try.prog W 0 (fun _ => true) true fuel t cs = some (d, pl)) (hlt : ∀ y ∈ pl, y.block < W.heap.size) :
    ∃ n, ∀ (i : Nat) (f : Field) (u : Value), fs[i]? = some f → cs[i]? = some u → ∃ x, DataW.trod enc Try.prog W 0 (fun _ => true) true n f.type [u] = some x ∧ ∀ y ∈ x.2, y.block < W.heap.size := by
  obtain ⟨xs, n, -, hx, -, hl, hf⟩ := DataW.trod_struct hs h
  simp only [Prod.mk.injEq] at hx
  refine ⟨n, fun i f u hi hu => ?_⟩
  obtain ⟨ho, hk⟩ := hone_of hone i f hi
  have h1 := hf i f hi
  rw [ho, hk] at h1
  have hil : i < cs.length := (List.getElem?_eq_some_iff.1 hu).1
  have h2 : (cs.drop i).take 1 = [u] := by
    rw [List.drop_eq_getElem_cons hil]
    have := (List.getElem?_eq_some_iff.1 hu).2
    simp [this]
  rw [h2] at h1
  have hix : i < xs.length := by rw [hl]; exact (Array.getElem?_eq_some_iff.1 hi).1
  rw [List.getElem?_eq_getElem hix] at h1
  exact ⟨_, h1, fun y hy => hlt y (by rw [hx.2]; exact List.mem_flatMap.2 ⟨_, List.getElem_mem hix, hy⟩)⟩
def fieldsOf (P : Program) (t : TypeId) : Array Field := match P.underlying t with | some (.struct fs) => fs | _ => #[]
/-- A struct's fields, by their types. -/
theorem read_struct {t : TypeId} {fs : Array Field} {ts : List TypeId} {fuel : Nat} {cs : List Value} {d : DataW H} {pl : List MemPlace} (hs : Try.prog.underlying t = some (.struct fs)) (hone : oneCellFields Try.prog (fieldsOf Try.prog t) = true)
    (hts : (fieldsOf Try.prog t).toList.map (·.type) = ts) (h : DataW.trod enc Try.prog W 0 (fun _ => true) true fuel t cs = some (d, pl)) (hlt : ∀ y ∈ pl, y.block < W.heap.size) :
    ∃ n, ∀ (i : Nat) (ty : TypeId) (u : Value), ts[i]? = some ty → cs[i]? = some u → ∃ x, DataW.trod enc Try.prog W 0 (fun _ => true) true n ty [u] = some x ∧ ∀ y ∈ x.2, y.block < W.heap.size := by
  have hfs : fieldsOf Try.prog t = fs := by unfold fieldsOf; rw [hs]
  rw [hfs] at hone hts
  obtain ⟨n, hn⟩ := fields_of hs hone h hlt
  refine ⟨n, fun i ty u hi hu => ?_⟩
  rw [← hts, List.getElem?_map] at hi
  cases hf : fs.toList[i]? with
  | none => rw [hf] at hi; cases hi
  | some f =>
    rw [hf] at hi
    simp only [Option.map_some, Option.some.injEq] at hi
    subst hi
    exact hn i f u (by rw [← Array.getElem?_toList]; exact hf) hu
theorem open_int1 {fuel : Nat} {u : Value} {x : DataW H × List MemPlace} (h : DataW.trod enc Try.prog W 0 (fun _ => true) true fuel 3 [u] = some x) : ∃ z, u = .int .i64 z ∧ i64R z := by
  obtain ⟨z, e, -, hw⟩ := DataW.trod_int Try.underlying3 h
  simp at e
  exact ⟨z, e, int_R hw⟩
end
end Go.Proofs.Ytkilfejcohnceaa
