/- A law for a region that draws its order and ends with a store into a cell that the region reads. No condition. -/
import Derived.Test.YteoopilmdlhkhaaDoorPaMB
import Derived.Deep.RegionHeld3
set_option linter.unusedSimpArgs false
set_option linter.unusedVariables false
namespace Go.Proofs.YteoopilmdlhkhaaDoor
open Go.RowKit

section
variable {P : Program} {ops : Array Oper} {Q : Exit → Act → World → Prop} {md : Region.Mode} {S : World → Prop} {z : Nat}
/-- Whatever order; S holds until number z has been carried out. -/
def wpTil (P : Program) (md : Region.Mode) (ops : Array Oper) (Q : Exit → Act → World → Prop) (S : World → Prop) (z : Nat) : Nat → Array Bool → Act → World → Prop
  | 0, listed, a, w => Region.ready md ops listed = [] ∧ Q .normal a w
  | fuel + 1, listed, a, w => (Region.ready md ops listed = [] → Q .normal a w) ∧ ∀ i ∈ Region.ready md ops listed, wpOp P ops Q i (fun a' w' => ((listed.setIfInBounds i true).getD z false = true ∨ S w') ∧ wpTil P md ops Q S z fuel (listed.setIfInBounds i true) a' w') a w
theorem wpAny_til : ∀ (fuel : Nat) (listed : Array Bool) (a : Act) (w : World), wpTil P md ops Q S z fuel listed a w → wpAny P md ops Q fuel listed a w
  | 0, _, _, _, h => h
  | fuel + 1, _, _, _, h => ⟨h.1, fun i hi => wpOp_mono (fun a' w' h' => wpAny_til fuel _ a' w' h'.2) (h.2 i hi)⟩
/-- Each of D waits for i, or for another of D. -/
def tarries (md : Region.Mode) (ops : Array Oper) (i : Nat) (D : List Nat) : Bool := D.all fun d => match ops[d]? with | some o => o.after.toList.any fun e => Region.binds md e && (e.on == i || D.contains e.on) | none => true
theorem tarries_spec {i : Nat} {D : List Nat} (h : tarries md ops i D = true) {listed : Array Bool} (hD : ∀ d ∈ D, listed.getD d true = false) (hi : listed.getD i true = false) : ∀ d ∈ D, d ∉ Region.ready md ops listed := by
  intro d hd hr
  obtain ⟨-, o, ho, hall⟩ := mem_ready.1 hr
  have h1 := List.all_eq_true.1 h d hd
  simp only [ho] at h1
  obtain ⟨e, he, hb⟩ := List.any_eq_true.1 h1
  simp only [Bool.and_eq_true, Bool.or_eq_true, beq_iff_eq, List.contains_iff_mem] at hb
  have h2 := hall e (Array.mem_toList_iff.1 he) hb.1
  have h3 : listed.getD e.on true = false := by
    rcases hb.2 with h4 | h4
    · rw [h4]; exact hi
    · exact hD _ h4
  rcases Nat.lt_or_ge e.on listed.size with h' | h'
  · simp [h'] at h2 h3
    rw [h3] at h2
    cases h2
  · simp [Array.getElem?_eq_none h'] at h2
theorem wpTil_first {i : Nat} {oi : Oper} {v : Value} (hi : ops[i]? = some oi) (hsel : ∀ (j : Nat) (o : Oper) cs b, ops[j]? = some o → o.op ≠ .select cs b)
    (hQ : ∀ c a w, Q (.panic c) (a.put oi.dst v) w → Q (.panic c) a w) {D : List Nat} (hw : tarries md ops i D = true) (hiz : i ≠ z) {T : World → Prop} (hT : (∀ w, T w) ∨ ((∀ w, S w → T w) ∧ z ∈ D)) :
    ∀ (fuel : Nat) (listed : Array Bool) (a : Act) (w : World),
      (∀ j oj, ops[j]? = some oj → j ≠ i → listed.getD j true = false → (∀ e ∈ oj.after, Region.binds md e = true → e.on ≠ i) → oi.apart ops oj = true) →
      i ∈ Region.ready md ops listed → (∀ d ∈ D, listed.getD d true = false) → YieldsIf P ops T oi v a → (listed.getD z false = true ∨ S w) → T w →
      wpTil P md ops Q S z fuel (listed.setIfInBounds i true) (a.put oi.dst v) w → wpTil P md ops Q S z (fuel + 1) listed a w := by
  intro fuel
  induction fuel with
  | zero =>
    intro listed a w _ hr _ hy hC hTw H
    refine ⟨fun h => (by rw [h] at hr; cases hr), fun j hj => ?_⟩
    by_cases hji : j = i
    · subst hji; exact hy.wpOp hi hTw ⟨hC.imp getD_set_true id, H⟩
    · have := ready_mono hj hji
      rw [H.1] at this
      cases this
  | succ fuel ih =>
    intro listed a w hfree hr hDl hy hC hTw H
    refine ⟨fun h => (by rw [h] at hr; cases hr), fun j hj => ?_⟩
    by_cases hji : j = i
    · subst hji; exact hy.wpOp hi hTw ⟨hC.imp getD_set_true id, H⟩
    · have h1 := H.2 j (ready_mono hj hji)
      obtain ⟨hjun, oj, hoj, hall⟩ := mem_ready.1 hj
      have hiun := (mem_ready.1 hr).1
      have hnot : ∀ e ∈ oj.after, Region.binds md e = true → e.on ≠ i := fun e he hb heq => by
        have h1 := hall e he hb
        have h0 := hiun
        rw [heq] at h1
        rcases Nat.lt_or_ge i listed.size with h' | h'
        · simp [h'] at h0 h1; rw [h0] at h1; cases h1
        · simp [Array.getElem?_eq_none h'] at h1
      have h2 := wpOp_putIf hoj (hfree j oj hoj hji hjun hnot) (fun cs b => hsel i oi cs b hi) (fun cs b => hsel j oj cs b hoj) hQ hy h1
      have hDn := tarries_spec hw hDl hiun
      have hDl' : ∀ d ∈ D, (listed.setIfInBounds j true).getD d true = false := fun d hd => by
        rw [getD_set_ne true (show j ≠ d from fun e => by subst e; exact hDn _ hd hj)]
        exact hDl d hd
      have hfree' : ∀ k ok, ops[k]? = some ok → k ≠ i → (listed.setIfInBounds j true).getD k true = false →
          (∀ e ∈ ok.after, Region.binds md e = true → e.on ≠ i) → oi.apart ops ok = true := fun k ok hk hki hun hno => by
        refine hfree k ok hk hki ?_ hno
        by_cases hjk : j = k
        · subst hjk; exact hjun
        · rw [getD_set_ne true hjk] at hun; exact hun
      refine wpOp_mono (fun a' w' h3 => ?_) h2
      have h4 : (listed.setIfInBounds j true).getD z false = true ∨ S w' := by
        have h5 := h3.2.1
        rw [Array.setIfInBounds_comm _ _ (Ne.symm hji), getD_set_ne false hiz] at h5
        exact h5
      refine ⟨h4, ih (listed.setIfInBounds j true) a' w' hfree' (ready_mono hr (Ne.symm hji)) hDl' h3.1 h4 ?_ ?_⟩
      · rcases hT with hT | ⟨hT, hz⟩
        · exact hT w'
        · refine hT w' (h4.resolve_left fun h6 => ?_)
          have h7 := hDl' z hz
          rcases Nat.lt_or_ge z (listed.setIfInBounds j true).size with h' | h'
          · have e1 : (listed.setIfInBounds j true).getD z false = (listed.setIfInBounds j true).getD z true := by simp only [Array.getD, dif_pos h']
            rw [← e1, h6] at h7
            cases h7
          · simp only [Array.getD, dif_neg (Nat.not_lt.2 h')] at h6
            cases h6
      · rw [Array.setIfInBounds_comm _ _ hji]
        exact h3.2.2
/-- Taken first: what yields in whatever world. -/
theorem wpTil_move {i : Nat} {oi : Oper} {v : Value} {fuel : Nat} {listed : Array Bool} {a : Act} {w : World} (hi : ops[i]? = some oi)
    (hs : Region.noSelect ops = true) (hf : Region.free md ops listed i = true) (hr : (Region.ready md ops listed).contains i = true)
    (hQ : ∀ c a w, Q (.panic c) (a.put oi.dst v) w → Q (.panic c) a w) (hiz : (i == z) = false) (hy : YieldsIf P ops (fun _ => True) oi v a) (hC : listed.getD z false = true ∨ S w)
    (h : wpTil P md ops Q S z fuel (listed.setIfInBounds i true) (a.put oi.dst v) w) : wpTil P md ops Q S z (fuel + 1) listed a w :=
  wpTil_first hi (Region.noSelect_spec hs) hQ (D := []) (by rfl) (by simpa using hiz) (.inl fun _ => trivial) fuel listed a w (Region.free_spec hi hf) (by simpa using hr) (by simp) hy hC trivial h
/-- Taken first: what yields in every world of S, where z waits for it. -/
theorem wpTil_take {i : Nat} {oi : Oper} {v : Value} {fuel : Nat} {listed : Array Bool} {a : Act} {w : World} (hi : ops[i]? = some oi)
    (hs : Region.noSelect ops = true) (hf : Region.free md ops listed i = true) (hr : (Region.ready md ops listed).contains i = true)
    (hQ : ∀ c a w, Q (.panic c) (a.put oi.dst v) w → Q (.panic c) a w) (hiz : (i == z) = false) (hw : tarries md ops i [z] = true) (hzl : listed.getD z true = false) (hy : YieldsIf P ops S oi v a) (hS : S w)
    (h : wpTil P md ops Q S z fuel (listed.setIfInBounds i true) (a.put oi.dst v) w) : wpTil P md ops Q S z (fuel + 1) listed a w :=
  wpTil_first hi (Region.noSelect_spec hs) hQ (D := [z]) hw (by simpa using hiz) (.inr ⟨fun _ h => h, by simp⟩) fuel listed a w (Region.free_spec hi hf) (by simpa using hr) (by simpa using hzl) hy (.inr hS) hS h
/-- Taken first: what yields in every world of S, where z waits for it, by the operations of D. -/
theorem wpTil_takeD {i : Nat} {oi : Oper} {v : Value} {fuel : Nat} {listed : Array Bool} {a : Act} {w : World} (D : List Nat) (hi : ops[i]? = some oi)
    (hs : Region.noSelect ops = true) (hf : Region.free md ops listed i = true) (hr : (Region.ready md ops listed).contains i = true)
    (hQ : ∀ c a w, Q (.panic c) (a.put oi.dst v) w → Q (.panic c) a w) (hiz : (i == z) = false) (hw : tarries md ops i D = true) (hzD : D.contains z = true) (hzl : (D.all fun d => !(listed.getD d true)) = true) (hy : YieldsIf P ops S oi v a) (hS : S w)
    (h : wpTil P md ops Q S z fuel (listed.setIfInBounds i true) (a.put oi.dst v) w) : wpTil P md ops Q S z (fuel + 1) listed a w :=
  wpTil_first hi (Region.noSelect_spec hs) hQ (D := D) hw (by simpa using hiz) (.inr ⟨fun _ h => h, by simpa using hzD⟩) fuel listed a w (Region.free_spec hi hf) (by simpa using hr) (fun d hd => by simpa using List.all_eq_true.1 hzl d hd) hy (.inr hS) hS h
/-- What a list of slots comes to. -/
theorem tilS {α : Type} : (∀ (l : List α) (i : Nat) (h : i < l.toArray.size), l.toArray[i] = l[i]) ∧ (∀ (a : α) (l : List α) (i : Nat) (h : i + 1 < (a :: l).length), (a :: l)[i + 1] = l[i]'(by simpa using h)) ∧ (∀ (a : α) (l : List α) (h : 0 < (a :: l).length), (a :: l)[0] = a) ∧
    (∀ (l : List α) (i : Nat) (a : α), l.toArray.setIfInBounds i a = (l.set i a).toArray) ∧ (∀ (x : α) (l : List α) (a : α), (x :: l).set 0 a = a :: l) ∧ (∀ (x : α) (l : List α) (i : Nat) (a : α), (x :: l).set (i + 1) a = x :: l.set i a) :=
  ⟨fun _ _ _ => by simp, fun _ _ _ _ => by simp, fun _ _ _ => by simp, fun _ _ _ => by simp, fun _ _ _ => by simp, fun _ _ _ _ => by simp⟩
theorem tilM (i : Nat) {oi : Oper} {v : Value} {fuel : Nat} {listed L : Array Bool} {a b : Act} {w : World} (hC : listed.getD z false = true ∨ S w) (h : wpTil P md ops Q S z fuel L b w) (hi : ops[i]? = some oi := by rfl)
    (hs : Region.noSelect ops = true := by kernel_rfl) (hf : Region.free md ops listed i = true := by kernel_rfl) (hr : (Region.ready md ops listed).contains i = true := by kernel_rfl)
    (hQ : ∀ c a w, Q (.panic c) (a.put oi.dst v) w → Q (.panic c) a w := by exact fun _ _ _ h => h) (hiz : (i == z) = false := by rfl) (hy : YieldsIf P ops (fun _ => True) oi v a := by refine Or.inl ⟨by rfl, ?_⟩; intro w hSw; (try simp only [tilS]); go_simp; try with_reducible rfl)
    (hL : listed.setIfInBounds i true = L := by (try simp only [tilS]); rfl) (hb : a.put oi.dst v = b := by (try simp only [tilS, Act.put]); rfl) : wpTil P md ops Q S z (fuel + 1) listed a w := by
  subst hL
  subst hb
  exact wpTil_move hi hs hf hr hQ hiz hy hC h
theorem tilT (i : Nat) {oi : Oper} {v : Value} {fuel : Nat} {listed L : Array Bool} {a b : Act} {w : World} (hS : S w) (h : wpTil P md ops Q S z fuel L b w) (hi : ops[i]? = some oi := by rfl)
    (hs : Region.noSelect ops = true := by kernel_rfl) (hf : Region.free md ops listed i = true := by kernel_rfl) (hr : (Region.ready md ops listed).contains i = true := by kernel_rfl)
    (hQ : ∀ c a w, Q (.panic c) (a.put oi.dst v) w → Q (.panic c) a w := by exact fun _ _ _ h => h) (hiz : (i == z) = false := by rfl) (hw : tarries md ops i [z] = true := by kernel_rfl) (hzl : listed.getD z true = false := by kernel_rfl)
    (hy : YieldsIf P ops S oi v a := by refine Or.inl ⟨by rfl, ?_⟩; intro w hSw; (try dsimp only at hSw); (try simp only [tilS]); go_simp; try with_reducible rfl)
    (hL : listed.setIfInBounds i true = L := by (try simp only [tilS]); rfl) (hb : a.put oi.dst v = b := by (try simp only [tilS, Act.put]); rfl) : wpTil P md ops Q S z (fuel + 1) listed a w := by
  subst hL
  subst hb
  exact wpTil_take hi hs hf hr hQ hiz hw hzl hy hS h
theorem tilD (i : Nat) (D : List Nat) {oi : Oper} {v : Value} {fuel : Nat} {listed L : Array Bool} {a b : Act} {w : World} (hS : S w) (h : wpTil P md ops Q S z fuel L b w) (hi : ops[i]? = some oi := by rfl)
    (hs : Region.noSelect ops = true := by kernel_rfl) (hf : Region.free md ops listed i = true := by kernel_rfl) (hr : (Region.ready md ops listed).contains i = true := by kernel_rfl)
    (hQ : ∀ c a w, Q (.panic c) (a.put oi.dst v) w → Q (.panic c) a w := by exact fun _ _ _ h => h) (hiz : (i == z) = false := by rfl) (hw : tarries md ops i D = true := by kernel_rfl) (hzD : D.contains z = true := by rfl) (hzl : (D.all fun d => !(listed.getD d true)) = true := by kernel_rfl)
    (hy : YieldsIf P ops S oi v a := by refine Or.inl ⟨by rfl, ?_⟩; intro w hSw; (try dsimp only at hSw); (try simp only [tilS]); go_simp; try with_reducible rfl)
    (hL : listed.setIfInBounds i true = L := by (try simp only [tilS]); rfl) (hb : a.put oi.dst v = b := by (try simp only [tilS, Act.put]); rfl) : wpTil P md ops Q S z (fuel + 1) listed a w := by
  subst hL
  subst hb
  exact wpTil_takeD D hi hs hf hr hQ hiz hw hzD hzl hy hS h
/-- Those that may come up, one after the other. -/
def AllTil (P : Program) (md : Region.Mode) (ops : Array Oper) (Q : Exit → Act → World → Prop) (S : World → Prop) (z : Nat) (fuel : Nat) (listed : Array Bool) (a : Act) (w : World) (rs : List Nat) : Prop :=
  ∀ i ∈ rs, wpOp P ops Q i (fun a' w' => ((listed.setIfInBounds i true).getD z false = true ∨ S w') ∧ wpTil P md ops Q S z fuel (listed.setIfInBounds i true) a' w') a w
theorem AllTil.nil {fuel : Nat} {listed : Array Bool} {a : Act} {w : World} : AllTil P md ops Q S z fuel listed a w [] := fun _ h => by cases h
theorem AllTil.cons {fuel : Nat} {listed : Array Bool} {a : Act} {w : World} {i : Nat} {o : Oper} {rs : List Nat} (ho : ops[i]? = some o)
    (h : ∀ K' : Act → World → Prop, Hid (∀ a w, S w → wpTil P md ops Q S z fuel (listed.setIfInBounds i true) a w → K' a w) → if Region.wanted o (yielded ops a.tmps) = true then Oper.wp P o a w K' Q else K' (a.put o.dst undef) w)
    (hs : AllTil P md ops Q S z fuel listed a w rs) : AllTil P md ops Q S z fuel listed a w (i :: rs) := fun j hj => by
  rcases List.mem_cons.1 hj with rfl | hj
  · exact wpOp_step ho (fun K' hK => h K' (fun a w hS hW => hK a w ⟨.inr hS, hW⟩))
  · exact hs j hj
theorem AllTil.last {fuel : Nat} {listed : Array Bool} {a : Act} {w : World} {o : Oper} (ho : ops[z]? = some o) (hz : (listed.setIfInBounds z true).getD z false = true)
    (h : ∀ K' : Act → World → Prop, Hid (∀ a w, wpTil P md ops Q S z fuel (listed.setIfInBounds z true) a w → K' a w) → if Region.wanted o (yielded ops a.tmps) = true then Oper.wp P o a w K' Q else K' (a.put o.dst undef) w) : AllTil P md ops Q S z fuel listed a w [z] := fun j hj => by
  rcases List.mem_cons.1 hj with rfl | hj
  · exact wpOp_step ho (fun K' hK => h K' (fun a w hW => hK a w ⟨.inl hz, hW⟩))
  · cases hj
theorem wpTil_ready {rs : List Nat} {fuel : Nat} {listed : Array Bool} {a : Act} {w : World} (hr : Region.ready md ops listed = rs) (hne : rs ≠ [])
    (h : AllTil P md ops Q S z fuel listed a w rs) : wpTil P md ops Q S z (fuel + 1) listed a w := ⟨fun h0 => absurd (hr ▸ h0) hne, hr ▸ h⟩
theorem wpTil_done {listed : Array Bool} {a : Act} {w : World} (hr : Region.ready md ops listed = []) (h : Q .normal a w) : ∀ fuel, wpTil P md ops Q S z fuel listed a w
  | 0 => ⟨hr, h⟩
  | _ + 1 => ⟨fun _ => h, by rw [hr]; simp⟩
theorem wp_region_til {id : Nat} {a : Act} {w : World} (S : World → Prop) (z : Nat) (hm : P.follows .mixedOrders = true) (hS : S w.drew)
    (h : wpTil P .any ops Q S z ops.size (Array.replicate ops.size false) a w.drew) : (Code.region id ops true).wp P Q a w :=
  wp_region_any hm (wpAny_til _ _ _ _ h)
end
end Go.Proofs.YteoopilmdlhkhaaDoor
