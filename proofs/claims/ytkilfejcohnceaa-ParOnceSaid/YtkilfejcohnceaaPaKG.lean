/- A queue of numbers: a slice that is cut off at its front and appended to at its end; a map of states, by what it holds. No condition. -/
import Derived.Test.YtkilfejcohnceaaPaKF
import Derived.Deep.AppendSrc
import Derived.Maps.OwnSet
import Derived.Maps.RangeWalk
set_option linter.unusedSimpArgs false
set_option linter.unusedVariables false
namespace Go.Proofs.Ytkilfejcohnceaa
open Go.RowKit Go.Maps

/-- The slice value v holds the numbers l; all its room is there, and may be written. -/
def QuI (w : World) (v : Value) (l : List Int) : Prop := ∃ A c, v = .slice A l.length c ∧ l.length ≤ c ∧ c ≤ maxLen ∧ (0 < c → ∃ g o, A = some ⟨g, o, none⟩ ∧ g < w.heap.size ∧ (∀ j, j < c → (w.cell? ⟨g, o + j, none⟩).isSome = true ∧ w.frozen? ⟨g, o + j, none⟩ = false) ∧ ∀ j x, l[j]? = some x → w.cell? ⟨g, o + j, none⟩ = some (.int .i64 x))
theorem QuI.keep {w w' : World} {v : Value} {l : List Int} (h : QuI w v l) (hz : w.heap.size ≤ w'.heap.size) (hk : ∀ g, v.ownBlock = some g → w'.heap[g]? = w.heap[g]?) : QuI w' v l := by
  obtain ⟨A, c, rfl, h1, h2, h3⟩ := h
  refine ⟨A, c, rfl, h1, h2, fun hp => ?_⟩
  obtain ⟨g, o, rfl, hg, ha, hb⟩ := h3 hp
  have hh := hk g rfl
  exact ⟨g, o, rfl, by omega, fun j hj => by rw [World.cell?_of_block (a := ⟨g, o + j, none⟩) hh, World.frozen?_of_block (a := ⟨g, o + j, none⟩) hh]; exact ha j hj, fun j x hx => (World.cell?_of_block (a := ⟨g, o + j, none⟩) hh).trans (hb j x hx)⟩
theorem QuI.one (w : World) (z : Int) : QuI (w.alloc (.cells #[.int .i64 z] 3)) (.slice (some ⟨w.heap.size, 0, none⟩) 1 1) [z] := by
  have hb := Box.new w #[.int .i64 z] 3
  refine ⟨_, 1, rfl, by simp, by simp [maxLen], fun _ => ⟨w.heap.size, 0, rfl, by simp, fun j hj => ?_, fun j x hx => ?_⟩⟩
  · obtain rfl : j = 0 := by omega
    have := hb.cell 0 (v := .int .i64 z) rfl
    rw [Nat.add_zero, this.1, this.2]
    exact ⟨rfl, rfl⟩
  · have hj : j = 0 := by
      have := (List.getElem?_eq_some_iff.1 hx).1
      simpa using this
    subst hj
    simp at hx
    subst hx
    exact (hb.cell 0 (v := .int .i64 z) rfl).1
/-- How a state reads: as itself. -/
def RH (v : Value) : Option (DataW Value × List MemPlace) := some (.held v, [])
def litN (k : Nat) : Lit := .int .i64 (k : Int)
/-- Block b is a map that has the states L; M: the blocks that are written meanwhile, b among them. -/
def MapK (w : World) (M : Nat → Prop) (b : Nat) (f : FunV) (L : Nat → Option KSt) : Prop :=
  ∃ D n, w.ownsMap Try.prog 3 RH b n D ∧ n + potK f L ≤ 10000 ∧ (∀ kl, Maps.has D kl = true → ∃ k : Nat, k < f.blocks.length ∧ kl = litN k) ∧ (∀ k : Nat, k < f.blocks.length → Maps.has D (litN k) = (L k).isSome) ∧ (∀ k : Nat, f.blocks.length ≤ k → L k = none) ∧
    ∀ k s, L k = some s → ∃ v1 v2, (∀ zd, D.atKey (litN k) zd = .held (.agg #[v1, v2])) ∧ SetM w M v1 s.1 ∧ SetM w M v2 s.2
theorem keyed_int : Keyed Try.prog 3 := int_keyed (q := .i64) (by kernel_rfl)
theorem lit_wf {k : Nat} (h : k ≤ 1000000) : (Lit.int .i64 (k : Int)).wf = true := WalkArith.wf_i64 (by omega)
theorem lit_key {k : Nat} (h : k ≤ 1000000) : keyOf Try.prog 3 (.int .i64 (k : Int)) = some (litN k) := keyOf_int_mk (q := .i64) (by kernel_rfl) (lit_wf h)
theorem litN_inj {j k : Nat} (h : litN j = litN k) : j = k := by
  unfold litN at h
  injection h with _ h
  omega
section
variable {w w' : World} {M M' : Nat → Prop} {b : Nat} {f : FunV} {L : Nat → Option KSt}
/-- All blocks but those of M, b not touched, are as they were. -/
theorem MapK.keep (h : MapK w M b f L) (hz : w.heap.size ≤ w'.heap.size) (hb : w'.heap[b]? = w.heap[b]?) (hk : ∀ k, k < w.heap.size → ¬ M k → w'.heap[k]? = w.heap[k]?) (hM : ∀ k, k < w.heap.size → M' k → M k) : MapK w' M' b f L := by
  obtain ⟨D, n, ⟨es, clock, h1, h2, h3, h4⟩, hn, hh, hL, ho, hv⟩ := h
  refine ⟨D, n, ⟨es, clock, hb.trans h1, h2, h3, h4⟩, hn, hh, hL, ho, fun k s hs => ?_⟩
  obtain ⟨v1, v2, e, a1, a2⟩ := hv k s hs
  exact ⟨v1, v2, e, a1.keep hz hk hM, a2.keep hz hk hM⟩
/-- .. behind a store. -/
theorem MapK.put {D : DataW Value} {n c : Nat} {s : KSt} {v1 v2 : Value} (hown : w'.ownsMap Try.prog 3 RH b (n + 1) (D.put (litN c) (.held (.agg #[v1, v2])))) (hD : IsMap D) (hg : w.grownBy w' (some b)) (hb : M b) (hn : n + potK f L ≤ 10000) (hp : potK f (updK L c s) < potK f L)
    (hh : ∀ kl, Maps.has D kl = true → ∃ k : Nat, k < f.blocks.length ∧ kl = litN k) (hL : ∀ k : Nat, k < f.blocks.length → Maps.has D (litN k) = (L k).isSome) (ho : ∀ k : Nat, f.blocks.length ≤ k → L k = none)
    (hv : ∀ k s, L k = some s → ∃ v1 v2, (∀ zd, D.atKey (litN k) zd = .held (.agg #[v1, v2])) ∧ SetM w M v1 s.1 ∧ SetM w M v2 s.2) (hc : c < f.blocks.length) (hc2 : c ≤ 1000000) (h1 : SetM w M v1 s.1) (h2 : SetM w M v2 s.2) : MapK w' M b f (updK L c s) := by
  have hkey : WideAt.IsKeyLit (litN c) := keyed_int.key (lit_key hc2)
  have hk : ∀ k, k < w.heap.size → ¬ M k → w'.heap[k]? = w.heap[k]? := fun k hk hm => hg.block k hk (fun e => hm (by injection e with e; rw [e]; exact hb))
  refine ⟨_, _, hown, by omega, fun kl hx => ?_, fun k hk' => ?_, fun k hk' => ?_, fun k t ht => ?_⟩
  · by_cases e : kl = litN c
    · exact ⟨c, hc, e⟩
    · rw [has_put_other e] at hx
      exact hh kl hx
  · by_cases e : k = c
    · subst e
      rw [has_put_same hD hkey, updK_same]
      rfl
    · rw [has_put_other (fun h => e (litN_inj h)), updK_other e]
      exact hL k hk'
  · rw [updK_other (by omega)]
    exact ho k hk'
  · by_cases e : k = c
    · subst e
      rw [updK_same] at ht
      cases ht
      exact ⟨v1, v2, fun zd => atKey_put_same hD hkey _ _, h1.keep hg.size hk (fun _ _ h => h), h2.keep hg.size hk (fun _ _ h => h)⟩
    · rw [updK_other e] at ht
      obtain ⟨u1, u2, e', a1, a2⟩ := hv k t ht
      exact ⟨u1, u2, fun zd => by rw [atKey_put_other (fun h => e (litN_inj h))]; exact e' zd, a1.keep hg.size hk (fun _ _ h => h), a2.keep hg.size hk (fun _ _ h => h)⟩
end
end Go.Proofs.Ytkilfejcohnceaa
