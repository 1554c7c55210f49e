/- Texts of several names, of which only what the statement needs is kept. -/
import Derived.Test.YteoopilmdlhkhaaDoorPaKA
import Derived.Test.YteoopilmdlhkhaaDoorPaNQ
import Derived.Deep.AppendSrc
import Derived.Maps.OwnSet
import Derived.Maps.RangeWalk
/- Layer 8, the program: contracts of Step, behind, through, meet, same, arguments, Contains. Condition: the table of parts reads as listed. -/
set_option linter.unusedSimpArgs false
set_option linter.unusedVariables false
namespace Go.Proofs.YteoopilmdlhkhaaDoor
open Go.RowKit

/-- A set that a call has made, as a value: in a block of its own. -/
def WN (W w' : World) (v : Value) (s : List Nat) : Prop := ∃ A c, v = .slice A s.length c ∧ s.length ≤ c ∧ c ≤ 9223372036854775807 ∧ Sl w' w'.heap.size .u64 A (nI s) ∧ ∀ b o, A = some ⟨b, o, none⟩ → W.heap.size ≤ b
theorem WN.below {W w w1 : World} {v : Value} {s : List Nat} (h : WN W w v s) (hb : Below w.heap.size w w1) : WN W w1 v s := by
  obtain ⟨A, c, h1, h2, h3, h4, h5⟩ := h
  exact ⟨A, c, h1, h2, h3, (h4.below hb).more hb.size, h5⟩
theorem WN.lower {W W0 w : World} {v : Value} {s : List Nat} (h : WN W w v s) (hb : W0.heap.size ≤ W.heap.size) : WN W0 w v s := by
  obtain ⟨A, c, h1, h2, h3, h4, h5⟩ := h
  exact ⟨A, c, h1, h2, h3, h4, fun b o e => Nat.le_trans hb (h5 b o e)⟩
theorem MadeN.wn {W : World} {r : List Nat} {e : Ending} {w' : World} (h : MadeN W r e w') : ∃ v, e = .returned v ∧ WN W w' v r ∧ Below W.heap.size W w' := by
  obtain ⟨A, c, h1, h2, h3, h4, h5, h6⟩ := h
  exact ⟨_, h1, ⟨A, c, rfl, h2, h3, h4, h6⟩, h5⟩
/-- A set in memory, as a value. -/
def SetV (w : World) (v : Value) (s : List Nat) : Prop := ∃ A c, v = .slice A s.length c ∧ s.length ≤ c ∧ c ≤ 9223372036854775807 ∧ Sl w w.heap.size .u64 A (nI s)
theorem WN.ws {W w : World} {v : Value} {s : List Nat} (h : WN W w v s) : SetV w v s := let ⟨A, c, h1, h2, h3, h4, _⟩ := h; ⟨A, c, h1, h2, h3, h4⟩
theorem SetV.below {w w1 : World} {v : Value} {s : List Nat} (h : SetV w v s) (hb : Below w.heap.size w w1) : SetV w1 v s := by
  obtain ⟨A, c, h1, h2, h3, h4⟩ := h
  exact ⟨A, c, h1, h2, h3, (h4.below hb).more hb.size⟩
theorem withV {w : World} {v : Value} {s : List Nat} (h : SetV w v s) (hl : s.length ≤ 1000) (hw : W64 s) (T : Option Addr) (m d : Nat) (l : List Int) (hr : Sl w w.heap.size .i64 T l) (hm : l.length = m) (hm2 : m ≤ 1099511627776) (hR : ∀ z ∈ l, i64R z) :
    Calls Tryd.prog 35 #[v, .slice T m d] w fun e w' => ∃ r, e = .returned r ∧ WN w w' r (joinL [s, ofL l]) ∧ Below w.heap.size w w' := by
  obtain ⟨A, c, rfl, h2, h3, h4⟩ := h
  exact (with_anyN A T s.length c m d s l w ⟨h4, hw, h2, h3⟩ rfl (by omega) hr hm hm2 (fun z hz => hR z hz)).mono fun _ _ h => h.wn
theorem withoutV {w : World} {v : Value} {s : List Nat} (h : SetV w v s) (hl : s.length ≤ 1000) (hw : W64 s) (T : Option Addr) (m d : Nat) (l : List Int) (hr : Sl w w.heap.size .i64 T l) (hm : l.length = m) (hm2 : m ≤ 1099511627776) (hR : ∀ z ∈ l, i64R z) :
    Calls Tryd.prog 34 #[v, .slice T m d] w fun e w' => ∃ r, e = .returned r ∧ WN w w' r (withoutL s l) ∧ Below w.heap.size w w' := by
  obtain ⟨A, c, rfl, h2, h3, h4⟩ := h
  exact (without_anyN A T s.length c m d s l w h4 rfl (by omega) hw hr hm hm2 (fun z hz => hR z hz)).mono fun _ _ h => h.wn
theorem hasV {w : World} {v : Value} {s : List Nat} (h : SetV w v s) (hl : s.length ≤ 1000) (hw : W64 s) (m : Int) (hR : i64R m) :
    Calls Tryd.prog 60 #[v, .int .i64 m] w fun e w' => e = .returned (.bool (hasB s m)) ∧ ∃ q, w' = w.drewN q := by
  obtain ⟨A, c, rfl, h2, h3, h4⟩ := h
  exact has_any A s.length c s m w _ h4 rfl (by omega) hw hR
theorem Sl.one (w : World) (H : Nat) (z : Int) (hH : H = w.heap.size) (w' : World) (hw : w' = w.alloc (.cells #[.int .i64 z] 3)) : Sl w' w'.heap.size .i64 (some ⟨H, 0, none⟩) [z] := by
  subst hH
  subst hw
  exact Sl.lit' w 3 .i64 #[.int .i64 z] [z] rfl
end Go.Proofs.YteoopilmdlhkhaaDoor

/- Layer 8, the program: contracts of behind, through, meet, same, arguments, Contains. Condition: the table of parts reads as listed. -/
set_option linter.unusedSimpArgs false
set_option linter.unusedVariables false
namespace Go.Proofs.YteoopilmdlhkhaaDoor
open Go.RowKit

/-- A set in memory, in none of the blocks that are written. -/
def SetM (w : World) (M : Nat → Prop) (v : Value) (s : List Nat) : Prop := ∃ A c, v = .slice A s.length c ∧ s.length ≤ c ∧ c ≤ 9223372036854775807 ∧ Sl w w.heap.size .u64 A (nI s) ∧ ∀ b o, A = some ⟨b, o, none⟩ → 0 < s.length → ¬ M b
theorem SetM.v {w : World} {M : Nat → Prop} {v : Value} {s : List Nat} (h : SetM w M v s) : SetV w v s := let ⟨A, c, h1, h2, h3, h4, _⟩ := h; ⟨A, c, h1, h2, h3, h4⟩
theorem SetM.below {w w1 : World} {M : Nat → Prop} {v : Value} {s : List Nat} (h : SetM w M v s) (hb : Below w.heap.size w w1) : SetM w1 M v s := by
  obtain ⟨A, c, h1, h2, h3, h4, h5⟩ := h
  exact ⟨A, c, h1, h2, h3, (h4.below hb).more hb.size, h5⟩
theorem WN.setM {W w : World} {v : Value} {s : List Nat} (h : WN W w v s) {M : Nat → Prop} (hM : ∀ b, M b → b < W.heap.size) : SetM w M v s := by
  obtain ⟨A, c, h1, h2, h3, h4, h5⟩ := h
  exact ⟨A, c, h1, h2, h3, h4, fun b o e _ hm => by have := h5 b o e; have := hM b hm; omega⟩
theorem SetM.nil (w : World) (M : Nat → Prop) : SetM w M (.slice none 0 0) [] := ⟨none, 0, rfl, Nat.le_refl _, by omega, Sl.nil _ _ _ _, fun _ _ _ h => absurd h (by simp)⟩
/-- All blocks but those of M are as they were. -/
theorem SetM.keep {w w1 : World} {M M' : Nat → Prop} {v : Value} {s : List Nat} (h : SetM w M v s) (hz : w.heap.size ≤ w1.heap.size) (hk : ∀ b, b < w.heap.size → ¬ M b → w1.heap[b]? = w.heap[b]?) (hM : ∀ b, b < w.heap.size → M' b → M b) : SetM w1 M' v s := by
  obtain ⟨A, c, h1, h2, h3, h4, h5⟩ := h
  refine ⟨A, c, h1, h2, h3, fun hp => ?_, fun b o e hl hm => ?_⟩
  · obtain ⟨b, o, e, hb, hc⟩ := h4 hp
    exact ⟨b, o, e, by omega, fun j hj => (World.cell?_of_block (a := ⟨b, o + j, none⟩) (hk b hb (h5 b o e (by rwa [nI_len] at hp)))).trans (hc j hj)⟩
  · obtain ⟨b', o', e', hb, hc⟩ := h4 (by rw [nI_len]; exact hl)
    rw [e] at e'
    cases e'
    exact h5 b o e hl (hM b hb hm)
end Go.Proofs.YteoopilmdlhkhaaDoor

/- A queue of numbers: a slice that is cut off at its front and appended to at its end; a map of states, by what it holds. No condition. -/
set_option linter.unusedSimpArgs false
set_option linter.unusedVariables false
namespace Go.Proofs.YteoopilmdlhkhaaDoor
open Go.RowKit Go.Maps

/-- The slice value v holds the numbers l; all its room is there, and may be written. -/
def QuI (w : World) (v : Value) (l : List Int) : Prop := ∃ A c, v = .slice A l.length c ∧ l.length ≤ c ∧ c ≤ maxLen ∧ (0 < c → ∃ g o, A = some ⟨g, o, none⟩ ∧ g < w.heap.size ∧ (∀ j, j < c → (w.cell? ⟨g, o + j, none⟩).isSome = true ∧ w.frozen? ⟨g, o + j, none⟩ = false) ∧ ∀ j x, l[j]? = some x → w.cell? ⟨g, o + j, none⟩ = some (.int .i64 x))
theorem QuI.keep {w w' : World} {v : Value} {l : List Int} (h : QuI w v l) (hz : w.heap.size ≤ w'.heap.size) (hk : ∀ g, v.ownBlock = some g → w'.heap[g]? = w.heap[g]?) : QuI w' v l := by
  obtain ⟨A, c, rfl, h1, h2, h3⟩ := h
  refine ⟨A, c, rfl, h1, h2, fun hp => ?_⟩
  obtain ⟨g, o, rfl, hg, ha, hb⟩ := h3 hp
  have hh := hk g rfl
  exact ⟨g, o, rfl, by omega, fun j hj => by rw [World.cell?_of_block (a := ⟨g, o + j, none⟩) hh, World.frozen?_of_block (a := ⟨g, o + j, none⟩) hh]; exact ha j hj, fun j x hx => (World.cell?_of_block (a := ⟨g, o + j, none⟩) hh).trans (hb j x hx)⟩
theorem QuI.one (w : World) (z : Int) : QuI (w.alloc (.cells #[.int .i64 z] 3)) (.slice (some ⟨w.heap.size, 0, none⟩) 1 1) [z] := by
  have hb := Box.new w #[.int .i64 z] 3
  refine ⟨_, 1, rfl, by simp, by simp [maxLen], fun _ => ⟨w.heap.size, 0, rfl, by simp, fun j hj => ?_, fun j x hx => ?_⟩⟩
  · obtain rfl : j = 0 := by omega
    have := hb.cell 0 (v := .int .i64 z) rfl
    rw [Nat.add_zero, this.1, this.2]
    exact ⟨rfl, rfl⟩
  · have hj : j = 0 := by
      have := (List.getElem?_eq_some_iff.1 hx).1
      simpa using this
    subst hj
    simp at hx
    subst hx
    exact (hb.cell 0 (v := .int .i64 z) rfl).1
/-- How a state reads: as itself. -/
def RH (v : Value) : Option (DataW Value × List MemPlace) := some (.held v, [])
def litN (k : Nat) : Lit := .int .i64 (k : Int)
/-- Block b is a map that has the states L; M: the blocks that are written meanwhile, b among them. -/
def MapK (w : World) (M : Nat → Prop) (b : Nat) (f : FunV) (L : Nat → Option KSt) : Prop :=
  ∃ D n, w.ownsMap Tryd.prog 3 RH b n D ∧ n + potK f L ≤ 10000 ∧ (∀ kl, Maps.has D kl = true → ∃ k : Nat, k < f.blocks.length ∧ kl = litN k) ∧ (∀ k : Nat, k < f.blocks.length → Maps.has D (litN k) = (L k).isSome) ∧ (∀ k : Nat, f.blocks.length ≤ k → L k = none) ∧
    ∀ k s, L k = some s → ∃ v1 v2, (∀ zd, D.atKey (litN k) zd = .held (.agg #[v1, v2])) ∧ SetM w M v1 s.1 ∧ SetM w M v2 s.2
theorem keyed_int : Keyed Tryd.prog 3 := int_keyed (q := .i64) (by kernel_rfl)
theorem lit_wf {k : Nat} (h : k ≤ 1000000) : (Lit.int .i64 (k : Int)).wf = true := WalkArith.wf_i64 (by omega)
theorem lit_key {k : Nat} (h : k ≤ 1000000) : keyOf Tryd.prog 3 (.int .i64 (k : Int)) = some (litN k) := keyOf_int_mk (q := .i64) (by kernel_rfl) (lit_wf h)
theorem litN_inj {j k : Nat} (h : litN j = litN k) : j = k := by
  unfold litN at h
  injection h with _ h
  omega
section
variable {w w' : World} {M M' : Nat → Prop} {b : Nat} {f : FunV} {L : Nat → Option KSt}
/-- All blocks but those of M, b not touched, are as they were. -/
theorem MapK.keep (h : MapK w M b f L) (hz : w.heap.size ≤ w'.heap.size) (hb : w'.heap[b]? = w.heap[b]?) (hk : ∀ k, k < w.heap.size → ¬ M k → w'.heap[k]? = w.heap[k]?) (hM : ∀ k, k < w.heap.size → M' k → M k) : MapK w' M' b f L := by
  obtain ⟨D, n, ⟨es, clock, h1, h2, h3, h4⟩, hn, hh, hL, ho, hv⟩ := h
  refine ⟨D, n, ⟨es, clock, hb.trans h1, h2, h3, h4⟩, hn, hh, hL, ho, fun k s hs => ?_⟩
  obtain ⟨v1, v2, e, a1, a2⟩ := hv k s hs
  exact ⟨v1, v2, e, a1.keep hz hk hM, a2.keep hz hk hM⟩
/-- .. behind a store. -/
theorem MapK.put {D : DataW Value} {n c : Nat} {s : KSt} {v1 v2 : Value} (hown : w'.ownsMap Tryd.prog 3 RH b (n + 1) (D.put (litN c) (.held (.agg #[v1, v2])))) (hD : IsMap D) (hg : w.grownBy w' (some b)) (hb : M b) (hn : n + potK f L ≤ 10000) (hp : potK f (updK L c s) < potK f L)
    (hh : ∀ kl, Maps.has D kl = true → ∃ k : Nat, k < f.blocks.length ∧ kl = litN k) (hL : ∀ k : Nat, k < f.blocks.length → Maps.has D (litN k) = (L k).isSome) (ho : ∀ k : Nat, f.blocks.length ≤ k → L k = none)
    (hv : ∀ k s, L k = some s → ∃ v1 v2, (∀ zd, D.atKey (litN k) zd = .held (.agg #[v1, v2])) ∧ SetM w M v1 s.1 ∧ SetM w M v2 s.2) (hc : c < f.blocks.length) (hc2 : c ≤ 1000000) (h1 : SetM w M v1 s.1) (h2 : SetM w M v2 s.2) : MapK w' M b f (updK L c s) := by
  have hkey : WideAt.IsKeyLit (litN c) := keyed_int.key (lit_key hc2)
  have hk : ∀ k, k < w.heap.size → ¬ M k → w'.heap[k]? = w.heap[k]? := fun k hk hm => hg.block k hk (fun e => hm (by injection e with e; rw [e]; exact hb))
  refine ⟨_, _, hown, by omega, fun kl hx => ?_, fun k hk' => ?_, fun k hk' => ?_, fun k t ht => ?_⟩
  · by_cases e : kl = litN c
    · exact ⟨c, hc, e⟩
    · rw [has_put_other e] at hx
      exact hh kl hx
  · by_cases e : k = c
    · subst e
      rw [has_put_same hD hkey, updK_same]
      rfl
    · rw [has_put_other (fun h => e (litN_inj h)), updK_other e]
      exact hL k hk'
  · rw [updK_other (by omega)]
    exact ho k hk'
  · by_cases e : k = c
    · subst e
      rw [updK_same] at ht
      cases ht
      exact ⟨v1, v2, fun zd => atKey_put_same hD hkey _ _, h1.keep hg.size hk (fun _ _ h => h), h2.keep hg.size hk (fun _ _ h => h)⟩
    · rw [updK_other e] at ht
      obtain ⟨u1, u2, e', a1, a2⟩ := hv k t ht
      exact ⟨u1, u2, fun zd => by rw [atKey_put_other (fun h => e (litN_inj h))]; exact e' zd, a1.keep hg.size hk (fun _ _ h => h), a2.keep hg.size hk (fun _ _ h => h)⟩
end
end Go.Proofs.YteoopilmdlhkhaaDoor
