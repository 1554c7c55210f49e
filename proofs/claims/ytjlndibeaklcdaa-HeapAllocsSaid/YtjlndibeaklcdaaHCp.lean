/- Layer 9, the reference: Copy. No condition but on lengths. -/
import Derived.Test.YtjlndibeaklcdaaHAt
import Derived.Deep.RegionLaw
import Derived.Deep.RegionHeld3
import Derived.Deep.AppendLies
set_option linter.unusedSimpArgs false
set_option linter.unusedVariables false
namespace Go.Proofs.Ytjlndibeaklcdaa
open Go.RowKit

section
variable {P : Program} {ops : Array Oper} {Q : Exit → Act → World → Prop} {md : Region.Mode} {S : World → Prop} {z : Nat}
/-- Whatever order; S holds until number z has been carried out. -/
def wpTil (P : Program) (md : Region.Mode) (ops : Array Oper) (Q : Exit → Act → World → Prop) (S : World → Prop) (z : Nat) : Nat → Array Bool → Act → World → Prop
  | 0, listed, a, w => Region.ready md ops listed = [] ∧ Q .normal a w
  | fuel + 1, listed, a, w => (Region.ready md ops listed = [] → Q .normal a w) ∧ ∀ i ∈ Region.ready md ops listed, wpOp P ops Q i (fun a' w' => ((listed.setIfInBounds i true).getD z false = true ∨ S w') ∧ wpTil P md ops Q S z fuel (listed.setIfInBounds i true) a' w') a w
theorem wpAny_til : ∀ (fuel : Nat) (listed : Array Bool) (a : Act) (w : World), wpTil P md ops Q S z fuel listed a w → wpAny P md ops Q fuel listed a w
  | 0, _, _, _, h => h
  | fuel + 1, _, _, _, h => ⟨h.1, fun i hi => wpOp_mono (fun a' w' h' => wpAny_til fuel _ a' w' h'.2) (h.2 i hi)⟩
/-- Each of D waits for i, or for another of D. -/
def tarries (md : Region.Mode) (ops : Array Oper) (i : Nat) (D : List Nat) : Bool := D.all fun d => match ops[d]? with | some o => o.after.toList.any fun e => Region.binds md e && (e.on == i || D.contains e.on) | none => true
theorem tarries_spec {i : Nat} {D : List Nat} (h : tarries md ops i D = true) {listed : Array Bool} (hD : ∀ d ∈ D, listed.getD d true = false) (hi : listed.getD i true = false) : ∀ d ∈ D, d ∉ Region.ready md ops listed := by
  intro d hd hr
  obtain ⟨-, o, ho, hall⟩ := mem_ready.1 hr
  have h1 := List.all_eq_true.1 h d hd
  simp only [ho] at h1
  obtain ⟨e, he, hb⟩ := List.any_eq_true.1 h1
  simp only [Bool.and_eq_true, Bool.or_eq_true, beq_iff_eq, List.contains_iff_mem] at hb
  have h2 := hall e (Array.mem_toList_iff.1 he) hb.1
  have h3 : listed.getD e.on true = false := by
    rcases hb.2 with h4 | h4
    · rw [h4]; exact hi
    · exact hD _ h4
  rcases Nat.lt_or_ge e.on listed.size with h' | h'
  · simp [h'] at h2 h3
    rw [h3] at h2
    cases h2
  · simp [Array.getElem?_eq_none h'] at h2
theorem wpTil_first {i : Nat} {oi : Oper} {v : Value} (hi : ops[i]? = some oi) (hsel : ∀ (j : Nat) (o : Oper) cs b, ops[j]? = some o → o.op ≠ .select cs b)
    (hQ : ∀ c a w, Q (.panic c) (a.put oi.dst v) w → Q (.panic c) a w) {D : List Nat} (hw : tarries md ops i D = true) (hiz : i ≠ z) {T : World → Prop} (hT : (∀ w, T w) ∨ ((∀ w, S w → T w) ∧ z ∈ D)) :
    ∀ (fuel : Nat) (listed : Array Bool) (a : Act) (w : World),
      (∀ j oj, ops[j]? = some oj → j ≠ i → listed.getD j true = false → (∀ e ∈ oj.after, Region.binds md e = true → e.on ≠ i) → oi.apart ops oj = true) →
      i ∈ Region.ready md ops listed → (∀ d ∈ D, listed.getD d true = false) → YieldsIf P ops T oi v a → (listed.getD z false = true ∨ S w) → T w →
      wpTil P md ops Q S z fuel (listed.setIfInBounds i true) (a.put oi.dst v) w → wpTil P md ops Q S z (fuel + 1) listed a w := by
  intro fuel
  induction fuel with
  | zero =>
    intro listed a w _ hr _ hy hC hTw H
    refine ⟨fun h => (by rw [h] at hr; cases hr), fun j hj => ?_⟩
    by_cases hji : j = i
    · subst hji; exact hy.wpOp hi hTw ⟨hC.imp getD_set_true id, H⟩
    · have := ready_mono hj hji
      rw [H.1] at this
      cases this
  | succ fuel ih =>
    intro listed a w hfree hr hDl hy hC hTw H
    refine ⟨fun h => (by rw [h] at hr; cases hr), fun j hj => ?_⟩
    by_cases hji : j = i
    · subst hji; exact hy.wpOp hi hTw ⟨hC.imp getD_set_true id, H⟩
    · have h1 := H.2 j (ready_mono hj hji)
      obtain ⟨hjun, oj, hoj, hall⟩ := mem_ready.1 hj
      have hiun := (mem_ready.1 hr).1
      have hnot : ∀ e ∈ oj.after, Region.binds md e = true → e.on ≠ i := fun e he hb heq => by
        have h1 := hall e he hb
        have h0 := hiun
        rw [heq] at h1
        rcases Nat.lt_or_ge i listed.size with h' | h'
        · simp [h'] at h0 h1; rw [h0] at h1; cases h1
        · simp [Array.getElem?_eq_none h'] at h1
      have h2 := wpOp_putIf hoj (hfree j oj hoj hji hjun hnot) (fun cs b => hsel i oi cs b hi) (fun cs b => hsel j oj cs b hoj) hQ hy h1
      have hDn := tarries_spec hw hDl hiun
      have hDl' : ∀ d ∈ D, (listed.setIfInBounds j true).getD d true = false := fun d hd => by
        rw [getD_set_ne true (show j ≠ d from fun e => by subst e; exact hDn _ hd hj)]
        exact hDl d hd
      have hfree' : ∀ k ok, ops[k]? = some ok → k ≠ i → (listed.setIfInBounds j true).getD k true = false →
          (∀ e ∈ ok.after, Region.binds md e = true → e.on ≠ i) → oi.apart ops ok = true := fun k ok hk hki hun hno => by
        refine hfree k ok hk hki ?_ hno
        by_cases hjk : j = k
        · subst hjk; exact hjun
        · rw [getD_set_ne true hjk] at hun; exact hun
      refine wpOp_mono (fun a' w' h3 => ?_) h2
      have h4 : (listed.setIfInBounds j true).getD z false = true ∨ S w' := by
        have h5 := h3.2.1
        rw [Array.setIfInBounds_comm _ _ (Ne.symm hji), getD_set_ne false hiz] at h5
        exact h5
      refine ⟨h4, ih (listed.setIfInBounds j true) a' w' hfree' (ready_mono hr (Ne.symm hji)) hDl' h3.1 h4 ?_ ?_⟩
      · rcases hT with hT | ⟨hT, hz⟩
        · exact hT w'
        · refine hT w' (h4.resolve_left fun h6 => ?_)
          have h7 := hDl' z hz
          rcases Nat.lt_or_ge z (listed.setIfInBounds j true).size with h' | h'
          · have e1 : (listed.setIfInBounds j true).getD z false = (listed.setIfInBounds j true).getD z true := by simp only [Array.getD, dif_pos h']
            rw [← e1, h6] at h7
            cases h7
          · simp only [Array.getD, dif_neg (Nat.not_lt.2 h')] at h6
            cases h6
      · rw [Array.setIfInBounds_comm _ _ hji]
        exact h3.2.2
/-- Taken first: what yields in whatever world. -/
theorem wpTil_move {i : Nat} {oi : Oper} {v : Value} {fuel : Nat} {listed : Array Bool} {a : Act} {w : World} (hi : ops[i]? = some oi)
    (hs : Region.noSelect ops = true) (hf : Region.free md ops listed i = true) (hr : (Region.ready md ops listed).contains i = true)
    (hQ : ∀ c a w, Q (.panic c) (a.put oi.dst v) w → Q (.panic c) a w) (hiz : (i == z) = false) (hy : YieldsIf P ops (fun _ => True) oi v a) (hC : listed.getD z false = true ∨ S w)
    (h : wpTil P md ops Q S z fuel (listed.setIfInBounds i true) (a.put oi.dst v) w) : wpTil P md ops Q S z (fuel + 1) listed a w :=
  wpTil_first hi (Region.noSelect_spec hs) hQ (D := []) (by rfl) (by simpa using hiz) (.inl fun _ => trivial) fuel listed a w (Region.free_spec hi hf) (by simpa using hr) (by simp) hy hC trivial h
/-- Taken first: what yields in every world of S, where z waits for it. -/
theorem wpTil_take {i : Nat} {oi : Oper} {v : Value} {fuel : Nat} {listed : Array Bool} {a : Act} {w : World} (hi : ops[i]? = some oi)
    (hs : Region.noSelect ops = true) (hf : Region.free md ops listed i = true) (hr : (Region.ready md ops listed).contains i = true)
    (hQ : ∀ c a w, Q (.panic c) (a.put oi.dst v) w → Q (.panic c) a w) (hiz : (i == z) = false) (hw : tarries md ops i [z] = true) (hzl : listed.getD z true = false) (hy : YieldsIf P ops S oi v a) (hS : S w)
    (h : wpTil P md ops Q S z fuel (listed.setIfInBounds i true) (a.put oi.dst v) w) : wpTil P md ops Q S z (fuel + 1) listed a w :=
  wpTil_first hi (Region.noSelect_spec hs) hQ (D := [z]) hw (by simpa using hiz) (.inr ⟨fun _ h => h, by simp⟩) fuel listed a w (Region.free_spec hi hf) (by simpa using hr) (by simpa using hzl) hy (.inr hS) hS h
/-- Those that may come up, one after the other. -/
def AllTil (P : Program) (md : Region.Mode) (ops : Array Oper) (Q : Exit → Act → World → Prop) (S : World → Prop) (z : Nat) (fuel : Nat) (listed : Array Bool) (a : Act) (w : World) (rs : List Nat) : Prop :=
  ∀ i ∈ rs, wpOp P ops Q i (fun a' w' => ((listed.setIfInBounds i true).getD z false = true ∨ S w') ∧ wpTil P md ops Q S z fuel (listed.setIfInBounds i true) a' w') a w
theorem AllTil.nil {fuel : Nat} {listed : Array Bool} {a : Act} {w : World} : AllTil P md ops Q S z fuel listed a w [] := fun _ h => by cases h
theorem AllTil.cons {fuel : Nat} {listed : Array Bool} {a : Act} {w : World} {i : Nat} {o : Oper} {rs : List Nat} (ho : ops[i]? = some o)
    (h : ∀ K' : Act → World → Prop, Hid (∀ a w, S w → wpTil P md ops Q S z fuel (listed.setIfInBounds i true) a w → K' a w) → if Region.wanted o (yielded ops a.tmps) = true then Oper.wp P o a w K' Q else K' (a.put o.dst undef) w)
    (hs : AllTil P md ops Q S z fuel listed a w rs) : AllTil P md ops Q S z fuel listed a w (i :: rs) := fun j hj => by
  rcases List.mem_cons.1 hj with rfl | hj
  · exact wpOp_step ho (fun K' hK => h K' (fun a w hS hW => hK a w ⟨.inr hS, hW⟩))
  · exact hs j hj
theorem AllTil.last {fuel : Nat} {listed : Array Bool} {a : Act} {w : World} {o : Oper} (ho : ops[z]? = some o) (hz : (listed.setIfInBounds z true).getD z false = true)
    (h : ∀ K' : Act → World → Prop, Hid (∀ a w, wpTil P md ops Q S z fuel (listed.setIfInBounds z true) a w → K' a w) → if Region.wanted o (yielded ops a.tmps) = true then Oper.wp P o a w K' Q else K' (a.put o.dst undef) w) : AllTil P md ops Q S z fuel listed a w [z] := fun j hj => by
  rcases List.mem_cons.1 hj with rfl | hj
  · exact wpOp_step ho (fun K' hK => h K' (fun a w hW => hK a w ⟨.inl hz, hW⟩))
  · cases hj
theorem wpTil_ready {rs : List Nat} {fuel : Nat} {listed : Array Bool} {a : Act} {w : World} (hr : Region.ready md ops listed = rs) (hne : rs ≠ [])
    (h : AllTil P md ops Q S z fuel listed a w rs) : wpTil P md ops Q S z (fuel + 1) listed a w := ⟨fun h0 => absurd (hr ▸ h0) hne, hr ▸ h⟩
theorem wpTil_done {listed : Array Bool} {a : Act} {w : World} (hr : Region.ready md ops listed = []) (h : Q .normal a w) : ∀ fuel, wpTil P md ops Q S z fuel listed a w
  | 0 => ⟨hr, h⟩
  | _ + 1 => ⟨fun _ => h, by rw [hr]; simp⟩
theorem wp_region_til {id : Nat} {a : Act} {w : World} (S : World → Prop) (z : Nat) (hm : P.follows .mixedOrders = true) (hS : S w.drew)
    (h : wpTil P .any ops Q S z ops.size (Array.replicate ops.size false) a w.drew) : (Code.region id ops true).wp P Q a w :=
  wp_region_any hm (wpAny_til _ _ _ _ h)
end
attribute [local go_sem ↓] Go.wp_at_zero Go.wp_at_succ
theorem Box.dr9 {w : World} {k : Nat} {cs : Array Value} {T : TypeId} (h : Box w k cs T) : Box w.drew k cs T := h
theorem Box.newAt9 {w : World} {k : Nat} {cs : Array Value} {T : TypeId} (h : w.heap.size = k) : Box (w.alloc (.cells cs T)) k cs T := by subst h; exact Box.new w cs T
theorem Box.kept9 {w w' : World} {k : Nat} {cs : Array Value} {T : TypeId} (h : w'.heap[k]? = w.heap[k]?) (b : Box w k cs T) : Box w' k cs T := h.trans b
theorem size_dr9 (w : World) : w.drew.heap.size = w.heap.size := rfl
theorem Below.dr9 {a w : World} {B : Nat} (h : Below B a w) : Below B a w.drew := below_drewN h 1
theorem Ow.lit1 {w : World} {H B : Nat} (hb : Box w H #[] 3) (hB : B ≤ H) : Ow w B 3 .i64 (.slice (some ⟨H, 0, none⟩) 0 0) [] :=
  ⟨rfl, .inr ⟨H, 0, #[], rfl, hB, hb, Nat.le_refl _, by simp [maxLen], rfl, rfl⟩⟩
/-- append([]int{}, x..) at a step of a region that draws its order. -/
theorem step_append_row {P : Program} (w : World) {ops : Array Oper} {o : Oper} {a : Act} {K : Act → World → Prop} {Q : Exit → Act → World → Prop} {E : Prop} (hgd : o.guard = none) (s x : Operand) (t : TypeId)
    (ho : o.op = .call { callee := .builtin .append, args := #[s, x], argTypes := #[t, t] })
    (i : TypeInfo) (z : Value) (ht : P.underlying t = some (.slice 3)) (hi : P.info? 3 = some i) (hz : i.zero = some z)
    (hsize : i.size = 1) (hby : i.bytes = 8) (hzs : z.cells.size = 1)
    (H : Nat) (hs : a.eval s = .slice (some ⟨H, 0, none⟩) 0 0) (hH : Box w H #[] 3)
    (B : Nat) (A : Option Addr) (m c : Nat) (news : List Int) (hx : a.eval x = .slice A m c) (hm : news.length = m) (hr : Sl w B .i64 A news)
    (hroom : m ≤ 1000000)
    (h : ∀ g cap w', Ow w' H 3 .i64 (.slice (some ⟨g, 0, none⟩) m cap) news → w.grownBy w' (some H) → (g = H ∨ g = w.heap.size) → g < w'.heap.size → K (a.put o.dst (.slice (some ⟨g, 0, none⟩) m cap)) w') :
    if Region.wanted o (yielded ops a.tmps) = true then Oper.wp P o a w K Q else E := by
  subst hm
  have hlt := hH.lt
  have hown := Ow.lit1 hH (Nat.le_refl H)
  by_cases h0 : news = []
  · subst h0
    have hw : Region.wanted o (yielded ops a.tmps) = true := by simp [Region.wanted, hgd]
    rw [if_pos hw]
    have hrun : (Builtin.append_ #[t, t] o.type #[.slice (some ⟨H, 0, none⟩) 0 0, .slice A ([] : List Int).length c]).run P w = .ok (.slice (some ⟨H, 0, none⟩) 0 0) w := by
      cases A <;> simp [Builtin.append_, run_underlying ht, sizeOf, typeInfo, hi, Builtin.lenOf, Builtin.firstCells, storeCells, loadCells, loadCellsFrom]
    unfold Oper.wp execOp
    simp only [ho, resolve, invoke, builtin, Sem.run_bind, Sem.run_pure, Result.andThen_ok, List.map_toArray, List.map_cons, List.map_nil, hs, hx, hrun]
    exact h H 0 w hown (World.grownBy.refl _ _) (.inl rfl) hlt
  · obtain ⟨b, off, rfl, _, hc⟩ := hr (List.length_pos_iff.2 h0)
    refine step_append_lies w hgd s x t ho H 3 i z 1 8 ht hi hz hsize hby hzs (by omega) (.slice (some ⟨H, 0, none⟩) 0 0) 0 [] hs hown ⟨b, off, none⟩ news.length c (news.map (Value.int .i64)) hx (by simp)
      (fun j u hu => by
          have hj : j < news.length := by have := (List.getElem?_eq_some_iff.1 hu).1; simpa using this
          rw [Addr.add_lit, hc j hj]
          rw [← hu]
          simp [List.getD, hj]) (ints_one .i64 news) (List.length_pos_iff.2 h0) (by simp only [maxLen]; omega) (by omega) (by omega) w.heap.size rfl
      fun g cap w' h2 h3 h4 h5 => ?_
    rw [Nat.zero_add] at h2 ⊢
    refine h g cap w' (by unfold Ow; exact h2) h3 ?_ h5
    rcases h4 with h4 | h4
    · left
      have : some H = some g := h4
      injection this with this
      exact this.symm
    · exact .inr h4
/-- Rows that nobody else has. -/
def RowsW (w : World) (b0 : Nat) (l : List ObjT) : Prop := (∀ p ∈ l, Ow w b0 3 .i64 p.2.1 p.1.refs ∧ Ow w b0 3 .i64 p.2.2 p.1.ints) ∧ (l.flatMap objC).Pairwise (fun a b => ∀ g, a.ownBlock = some g → b.ownBlock ≠ some g)
theorem RowsW.kept {w w' : World} {b0 : Nat} {l : List ObjT} (h : RowsW w b0 l) (hk : ∀ g, b0 ≤ g → w'.heap[g]? = w.heap[g]?) : RowsW w' b0 l :=
  ⟨fun p hp => ⟨(h.1 p hp).1.kept' (fun g hg => hk g ((h.1 p hp).1.row' g hg).1), (h.1 p hp).2.kept' (fun g hg => hk g ((h.1 p hp).2.row' g hg).1)⟩, h.2⟩
theorem RowsW.lower {w : World} {b0 b : Nat} {l : List ObjT} (h : RowsW w b0 l) (hb : b ≤ b0) : RowsW w b l := ⟨fun p hp => ⟨(h.1 p hp).1.lower hb, (h.1 p hp).2.lower hb⟩, h.2⟩
/-- A copy under way: the box of what is copied, k objects on. -/
def CpW (w1 : World) (h6 : Nat) (h : List ObjV) (k : Nat) (wr : World) : Prop :=
  ∃ u l, Box wr h6 #[u] 24 ∧ OwC objC 43 2 wr w1.heap.size u l ∧ l.map (·.1) = h.take k ∧ RowsW wr w1.heap.size l ∧ Below h6 w1 wr
theorem CpW.step {w1 wo w5 : World} {h6 : Nat} {h : List ObjV} {k : Nat} {o : ObjV} {u v1 v2 v5 : Value} {l : List ObjT}
    (hbx : Box wo h6 #[u] 24) (how : OwC objC 43 2 wo w1.heap.size u l) (hlm : l.map (·.1) = h.take k) (hrw : RowsW wo w1.heap.size l) (hb : Below h6 w1 wo) (h6l : h6 < w1.heap.size)
    (ho : h[k]? = some o) (hA5 : ∀ g, g < wo.heap.size → some g ≠ u.ownBlock → w5.heap[g]? = wo.heap[g]?) (hb5 : Below h6 wo w5)
    (r1 : Ow w5 wo.heap.size 3 .i64 v1 o.refs) (r2 : Ow w5 wo.heap.size 3 .i64 v2 o.ints) (hne : ∀ g, v1.ownBlock = some g → v2.ownBlock ≠ some g)
    (ho5 : OwC objC 43 2 w5 w1.heap.size v5 (l ++ [(o, v1, v2)])) : CpW w1 h6 h (k + 1) (w5.setCell ⟨h6, 0, none⟩ v5) := by
  have hs := hb.size
  have hs5 := hb5.size
  have hu6 : some h6 ≠ u.ownBlock := fun e => by have := (how.lt h6 e.symm).1; omega
  have hx5 : Box w5 h6 #[u] 24 := Box.kept9 (hA5 h6 (by omega) hu6) hbx
  have hxE := hx5.set 0 v5
  have hkE : ∀ g, w1.heap.size ≤ g → (w5.setCell ⟨h6, 0, none⟩ v5).heap[g]? = w5.heap[g]? := fun g hg => heap_setCell_other w5 ⟨h6, 0, none⟩ g v5 (show g ≠ h6 by omega)
  have hold : ∀ v zs, Ow wo w1.heap.size 3 .i64 v zs → Ow w5 w1.heap.size 3 .i64 v zs := fun v zs hq => hq.kept' fun g hg => by
    obtain ⟨-, h2, c, h3⟩ := hq.row' g hg
    refine hA5 g h2 fun e => ?_
    have h4 := (how.row g e.symm).one (T' := 3) ⟨c, _, h3⟩
    exact absurd h4 (by decide)
  have hlow : ∀ v zs, Ow wo w1.heap.size 3 .i64 v zs → ∀ g, v.ownBlock = some g → g < wo.heap.size := fun v zs hq g hg => (hq.row' g hg).2.1
  refine ⟨v5, l ++ [(o, v1, v2)], hxE, ho5.kept (fun g hg => hkE g (ho5.lt g hg).1), ?_, ?_, (hb.trans hb5).setCell (p := ⟨h6, 0, none⟩) (Nat.le_refl _) _⟩
  · rw [List.map_append, hlm, List.take_add_one, ho]
    rfl
  · refine RowsW.kept (w := w5) ⟨fun p hp => ?_, ?_⟩ hkE
    · rcases List.mem_append.1 hp with hp | hp
      · exact ⟨hold _ _ (hrw.1 p hp).1, hold _ _ (hrw.1 p hp).2⟩
      · obtain rfl := List.mem_singleton.1 hp
        exact ⟨r1.lower hs, r2.lower hs⟩
    · rw [List.flatMap_append]
      refine List.pairwise_append.2 ⟨hrw.2, ?_, ?_⟩
      · show List.Pairwise _ [v1, v2]
        exact List.Pairwise.cons (fun b hb g hg => by obtain rfl := List.mem_singleton.1 hb; exact hne g hg) (List.Pairwise.cons (fun b hb => by cases hb) List.Pairwise.nil)
      · intro a ha b hb g hg
        obtain ⟨q, hq, ha⟩ := List.mem_flatMap.1 ha
        have hlt : g < wo.heap.size := by
          have h2 := hrw.1 q hq
          have h3 : a = q.2.1 ∨ a = q.2.2 := by simpa [objC] using ha
          rcases h3 with rfl | rfl
          · exact hlow _ _ h2.1 g hg
          · exact hlow _ _ h2.2 g hg
        have hb' : b = v1 ∨ b = v2 := by simpa [objC] using hb
        intro e
        rcases hb' with rfl | rfl
        · have := (r1.row' g e).1; omega
        · have := (r2.row' g e).1; omega
set_option maxHeartbeats 4000000 in
set_option maxRecDepth 100000 in
theorem rcopy_any (vh : Value) (h : List ObjV) (w : World) (B : Nat) (hB : B ≤ w.heap.size) (hh : ObjsV w (· < B) vh h) (hsm : small9 h) :
    Calls Try.prog 7 #[.agg #[vh]] w fun e w' => ∃ v l, e = .returned (.agg #[v]) ∧ OwC objC 43 2 w' w.heap.size v l ∧ l.map (·.1) = h ∧ RowsW w' w.heap.size l ∧ Below w.heap.size w w' := by
  have HHK := hide (fun (W : World) (hW : Below w.heap.size w W) => hh.keep (up hW hB) (fun _ h => h))
  have HSM := hide hsm
  obtain ⟨i0, hi0, iz0, iz1, iz2⟩ := info_parts info_i64
  have HI := hide hi0
  obtain ⟨j0, hj0, jz0, jz1, jz2⟩ := info_parts info_Obj
  have HJ := hide hj0
  obtain ⟨Ao, c, rfl, hc, hm⟩ := hh.open'
  obtain ⟨n, hn⟩ : ∃ n, h.length = n := ⟨_, rfl⟩
  have HN := hide hn
  have hn3 : n ≤ 300 := by have := hsm.1; omega
  rw [hn] at HHK hc ⊢
  clear hh hn hsm hi0 hj0
  go_enter Try.func7, Try.ntmps7
  go_upto_region 2 with (fail)
  obtain ⟨w1, hw1⟩ : ∃ w1, w1 = ((w.alloc (.cells #[.slice Ao n c] 24)).alloc (.cells #[.slice none 0 0] 24)).alloc (.cells #[.slice none 0 0] 24) := ⟨_, rfl⟩
  obtain ⟨h5, hh5⟩ : ∃ h5, w.heap.size = h5 := ⟨_, rfl⟩
  have HX0 := hide (show Box w1 (h5) #[.slice Ao n c] 24 by rw [hw1, ← hh5]; have t := Box.new w #[.slice Ao n c] 24; (try simp only [World.size_alloc] at t); exact ((t.alloc _).alloc _))
  have HX1 := hide (show Box w1 (h5 + 1) #[.slice none 0 0] 24 by rw [hw1, ← hh5]; have t := Box.new (w.alloc (.cells #[.slice Ao n c] 24)) #[.slice none 0 0] 24; (try simp only [World.size_alloc] at t); exact (t.alloc _))
  have HX2 := hide (show Box w1 (h5 + 1 + 1) #[.slice none 0 0] 24 by rw [hw1, ← hh5]; have t := Box.new ((w.alloc (.cells #[.slice Ao n c] 24)).alloc (.cells #[.slice none 0 0] 24)) #[.slice none 0 0] 24; (try simp only [World.size_alloc] at t); exact t)
  have HB1 := hide (show Below w.heap.size w w1 by rw [hw1]; exact ((((Below.refl _ _).alloc (Nat.le_refl _) _).alloc (by simp only [World.size_alloc]; omega) _).alloc (by simp only [World.size_alloc]; omega) _))
  have w1s := HB1.out.size
  have w1z := hide (show w1.heap.size = h5 + 1 + 1 + 1 by rw [hw1, ← hh5]; simp only [World.size_alloc])
  have HK0 := hide (fun (W : World) (hW : Below w1.heap.size w1 W) => ((HX0.out.below hW).cell 0 (v := .slice Ao n c) rfl).1)
  have lHX0 := HX0.out.lt
  have HK1 := hide (fun (W : World) (hW : Below w1.heap.size w1 W) => ((HX1.out.below hW).cell 0 (v := .slice none 0 0) rfl).1)
  have lHX1 := HX1.out.lt
  have HK2 := hide (fun (W : World) (hW : Below w1.heap.size w1 W) => ((HX2.out.below hW).cell 0 (v := .slice none 0 0) rfl).1)
  have lHX2 := HX2.out.lt
  have h5g : w.heap.size ≤ h5 := by omega
  rw [← hw1, hh5]
  clear hw1 hh5
  have h5u : h5 + 1 + 1 < w1.heap.size := by have := w1z.out; omega
  have HUP := hide (fun (W : World) (hW : Below (h5 + 1 + 1) w1 W) => HB1.out.trans (hW.mono (by omega)))
  have HP0 := hide (fun (W : World) (hW : Below (h5 + 1 + 1) w1 W) => ((HX0.out.belowB hW (by omega)).cell 0 (v := .slice Ao n c) rfl).1)
  have HC0 := hide (show CpW w1 (h5 + 1 + 1) h 0 w1 from ⟨_, [], HX2.out, OwC.nil _ _, by simp, ⟨by simp, by simp⟩, Below.refl _ _⟩)
  go_wp2
  go_loopw [4] (fun i wr => ∃ k : Nat, k ≤ n ∧ i = .int .i64 k ∧ Hid (CpW w1 (h5 + 1 + 1) h k wr)) (fun i _ => n - (intOf i).toNat)
  case atStart => exact ⟨0, Nat.zero_le _, rfl, HC0⟩
  case round =>
    obtain ⟨k, hk, rfl, hq⟩ := hrel
    obtain ⟨u, l, hbx, how, hlm, hrw, hb⟩ := hq.out
    obtain ⟨wo, rfl⟩ : ∃ wo, wo = wr := ⟨_, rfl⟩
    have p0 := HP0.out wo hb
    have lwo := hb.size
    by_cases hlt : k < n
    case neg =>
      obtain rfl : n = k := by omega
      have hnl : ¬ ((n : Int) < (n : Int)) := by omega
      obtain ⟨Au, cu, rfl, -, -⟩ := how.sl
      obtain ⟨c6, f6⟩ := hbx.cell 0 (v := .slice Au l.length cu) rfl
      obtain ⟨z0, f0⟩ := (HX1.out.belowB hb (by omega)).cell 0 (v := .slice none 0 0) rfl
      have HZ := hide ((HX1.out.belowB hb (by omega)).set 0 (.slice Au l.length cu))
      have hbz : Below w.heap.size w (wo.setCell ⟨h5 + 1, 0, none⟩ (.slice Au l.length cu)) := (HUP.out wo hb).setCell (p := ⟨h5 + 1, 0, none⟩) (by show w.heap.size ≤ h5 + 1; omega) _
      have hkE : ∀ g, w1.heap.size ≤ g → (wo.setCell ⟨h5 + 1, 0, none⟩ (.slice Au l.length cu)).heap[g]? = wo.heap[g]? := fun g hg => heap_setCell_other wo ⟨h5 + 1, 0, none⟩ g _ (show g ≠ h5 + 1 by omega)
      have HOWZ := hide ((how.kept (fun g hg => hkE g (how.lt g hg).1)).lower w1s)
      have HRWZ := hide ((hrw.kept hkE).lower w1s)
      have HLMZ := hide (show l.map (·.1) = h by rw [hlm, ← HN.out, List.take_length])
      have HBZ := hide hbz
      clear hq hbx how hlm hrw hb hkE hbz
      generalize l.length = ll at *
      go_wp2
      have q0 := (HZ.out.cell 0 (v := .slice Au ll cu) rfl).1
      refine bodyPost_ret (v := .agg #[.slice Au ll cu]) (by simp [results, Try.results7, go_sem, q0]) rfl ⟨_, rfl, l, HOWZ.out, HLMZ.out, HRWZ.out, HBZ.out⟩
    obtain ⟨c6, f6⟩ := hbx.cell 0 (v := u) rfl
    have HBX := hide hbx
    have HOW := hide how
    have HLM := hide hlm
    have HRW := hide hrw
    have HBB := hide hb
    have hll : l.length = k := by
      have t := congrArg List.length hlm
      rw [List.length_map, List.length_take, HN.out] at t
      omega
    have HLN := hide (show l.length < 1000000 by omega)
    clear hll
    have HUB := hide (fun g (hg : u.ownBlock = some g) => And.intro (how.lt g hg).1 (And.intro (how.lt g hg).2 (show g ≠ h5 + 1 + 1 from fun e => by have := (how.lt g hg).1; omega)))
    obtain ⟨o, ho⟩ : ∃ o, h[k]? = some o := ⟨_, List.getElem?_eq_getElem (by have := HN.out; omega)⟩
    have HOO := hide ho
    have hsz := HSM.out.2 o (List.mem_of_getElem? ho)
    obtain ⟨bg, og, Ar, cr, Ai, ci, hAo, hbgb, ⟨e0, e1⟩, hi⟩ := (HHK.out wo (HUP.out wo hb)).get ho
    subst hAo
    have lbg : bg < wo.heap.size := by omega
    have lh5 : h5 < wo.heap.size := by omega
    have lh6 : h5 + 1 + 1 < wo.heap.size := by omega
    have HN5 := hide (show some h5 ≠ u.ownBlock from fun e => by have := (how.lt _ e.symm).1; omega)
    have HN6 := hide (show some (h5 + 1 + 1) ≠ u.ownBlock from fun e => by have := (how.lt _ e.symm).1; omega)
    have HNg := hide (show some bg ≠ u.ownBlock from fun e => by have := (how.lt _ e.symm).1; omega)
    have hki : (0 : Int) ≤ (k : Int) := by omega
    have hkl : (k : Int) < (n : Int) := by omega
    obtain ⟨Ar', cr', hAr, hcr1, hcr2, hslr, -⟩ := hi.1.sl
    obtain ⟨Ai', ci', hAi, hci1, hci2, hsli, -⟩ := hi.2.sl
    injection hAr with hAr1 hAr2 hAr3
    injection hAi with hAi1 hAi2 hAi3
    subst hAr1; subst hAi1
    have HSR := hide (fun (W : World) (hW : Below wo.heap.size wo W) => hslr.below (hW.mono (show B ≤ wo.heap.size by omega)))
    have HSI := hide (fun (W : World) (hW : Below wo.heap.size wo W) => hsli.below (hW.mono (show B ≤ wo.heap.size by omega)))
    obtain ⟨rl, hrl⟩ : ∃ rl, o.refs.length = rl := ⟨_, rfl⟩
    obtain ⟨il, hil⟩ : ∃ il, o.ints.length = il := ⟨_, rfl⟩
    have HRL := hide hrl
    have HIL := hide hil
    rw [hrl] at e0 hsz
    rw [hil] at e1 hsz
    have hr8 : rl ≤ 1000000 := by omega
    have hi8 : il ≤ 1000000 := by omega
    clear hq hbx how hlm hrw hb ho hi hslr hsli hrl hil hAr2 hAr3 hAi2 hAi3 hcr1 hcr2 hci1 hci2
    go_upto_region 5 with (fail)
    obtain ⟨wd, hwd⟩ : ∃ W, W = wo.drew := ⟨_, rfl⟩
    have bwd : Below wo.heap.size wo wd := by rw [hwd]; exact below_drewN (Below.refl _ _) 1
    have szd : wd.heap.size ≤ wo.heap.size := by rw [hwd]; exact Nat.le_refl _
    refine wp_region_til (fun w' => w'.cell? ⟨h5, 0, none⟩ = some (.slice (some ⟨bg, og, none⟩) n c) ∧ w'.cell? ⟨h5 + 1 + 1, 0, none⟩ = some (u) ∧ w'.cell? ⟨bg, og + k * 2, none⟩ = some (.slice Ar rl cr) ∧ w'.cell? ⟨bg, og + k * 2 + 1, none⟩ = some (.slice Ai il ci)) 22 (by kernel_rfl) ⟨p0, c6, e0, e1⟩ ?_
    rw [← hwd]
    have hSd : wd.cell? ⟨h5, 0, none⟩ = some (.slice (some ⟨bg, og, none⟩) n c) ∧ wd.cell? ⟨h5 + 1 + 1, 0, none⟩ = some (u) ∧ wd.cell? ⟨bg, og + k * 2, none⟩ = some (.slice Ar rl cr) ∧ wd.cell? ⟨bg, og + k * 2 + 1, none⟩ = some (.slice Ai il ci) := by rw [hwd]; exact ⟨p0, c6, e0, e1⟩
    clear hwd
    refine wpTil_move (i := 0) (v := ?_) rfl (by kernel_rfl) (by kernel_rfl) (by kernel_rfl) (fun _ _ _ h => h) (by rfl) (Or.inl ⟨by rfl, ?_⟩) (Or.inr hSd) ?_
    rotate_left
    focus
      intro w hSw
      go_simp
      try with_reducible rfl
    (try simp only [List.getElem_toArray, List.getElem_cons_succ, List.getElem_cons_zero, Act.put, List.setIfInBounds_toArray, List.set_cons_zero, List.set_cons_succ])
    refine wpTil_move (i := 3) (v := ?_) rfl (by kernel_rfl) (by kernel_rfl) (by kernel_rfl) (fun _ _ _ h => h) (by rfl) (Or.inl ⟨by rfl, ?_⟩) (Or.inr hSd) ?_
    rotate_left
    focus
      intro w hSw
      go_simp
      try with_reducible rfl
    (try simp only [List.getElem_toArray, List.getElem_cons_succ, List.getElem_cons_zero, Act.put, List.setIfInBounds_toArray, List.set_cons_zero, List.set_cons_succ])
    refine wpTil_move (i := 5) (v := ?_) rfl (by kernel_rfl) (by kernel_rfl) (by kernel_rfl) (fun _ _ _ h => h) (by rfl) (Or.inl ⟨by rfl, ?_⟩) (Or.inr hSd) ?_
    rotate_left
    focus
      intro w hSw
      go_simp
      try with_reducible rfl
    (try simp only [List.getElem_toArray, List.getElem_cons_succ, List.getElem_cons_zero, Act.put, List.setIfInBounds_toArray, List.set_cons_zero, List.set_cons_succ])
    refine wpTil_move (i := 11) (v := ?_) rfl (by kernel_rfl) (by kernel_rfl) (by kernel_rfl) (fun _ _ _ h => h) (by rfl) (Or.inl ⟨by rfl, ?_⟩) (Or.inr hSd) ?_
    rotate_left
    focus
      intro w hSw
      go_simp
      try with_reducible rfl
    (try simp only [List.getElem_toArray, List.getElem_cons_succ, List.getElem_cons_zero, Act.put, List.setIfInBounds_toArray, List.set_cons_zero, List.set_cons_succ])
    refine wpTil_move (i := 13) (v := ?_) rfl (by kernel_rfl) (by kernel_rfl) (by kernel_rfl) (fun _ _ _ h => h) (by rfl) (Or.inl ⟨by rfl, ?_⟩) (Or.inr hSd) ?_
    rotate_left
    focus
      intro w hSw
      go_simp
      try with_reducible rfl
    (try simp only [List.getElem_toArray, List.getElem_cons_succ, List.getElem_cons_zero, Act.put, List.setIfInBounds_toArray, List.set_cons_zero, List.set_cons_succ])
    refine wpTil_take (i := 1) (v := ?_) rfl (by kernel_rfl) (by kernel_rfl) (by kernel_rfl) (fun _ _ _ h => h) (by rfl) (by kernel_rfl) (by kernel_rfl) (Or.inl ⟨by rfl, ?_⟩) hSd ?_
    rotate_left
    focus
      intro w hSw
      obtain ⟨s0, s1, s2, s3⟩ := hSw
      go_simp
      try with_reducible rfl
    (try simp only [List.getElem_toArray, List.getElem_cons_succ, List.getElem_cons_zero, Act.put, List.setIfInBounds_toArray, List.set_cons_zero, List.set_cons_succ])
    refine wpTil_take (i := 4) (v := ?_) rfl (by kernel_rfl) (by kernel_rfl) (by kernel_rfl) (fun _ _ _ h => h) (by rfl) (by kernel_rfl) (by kernel_rfl) (Or.inl ⟨by rfl, ?_⟩) hSd ?_
    rotate_left
    focus
      intro w hSw
      obtain ⟨s0, s1, s2, s3⟩ := hSw
      go_simp
      try with_reducible rfl
    (try simp only [List.getElem_toArray, List.getElem_cons_succ, List.getElem_cons_zero, Act.put, List.setIfInBounds_toArray, List.set_cons_zero, List.set_cons_succ])
    refine wpTil_take (i := 12) (v := ?_) rfl (by kernel_rfl) (by kernel_rfl) (by kernel_rfl) (fun _ _ _ h => h) (by rfl) (by kernel_rfl) (by kernel_rfl) (Or.inl ⟨by rfl, ?_⟩) hSd ?_
    rotate_left
    focus
      intro w hSw
      obtain ⟨s0, s1, s2, s3⟩ := hSw
      go_simp
      try with_reducible rfl
    (try simp only [List.getElem_toArray, List.getElem_cons_succ, List.getElem_cons_zero, Act.put, List.setIfInBounds_toArray, List.set_cons_zero, List.set_cons_succ])
    refine wpTil_move (i := 6) (v := ?_) rfl (by kernel_rfl) (by kernel_rfl) (by kernel_rfl) (fun _ _ _ h => h) (by rfl) (Or.inl ⟨by rfl, ?_⟩) (Or.inr hSd) ?_
    rotate_left
    focus
      intro w hSw
      go_simp
      try with_reducible rfl
    (try simp only [List.getElem_toArray, List.getElem_cons_succ, List.getElem_cons_zero, Act.put, List.setIfInBounds_toArray, List.set_cons_zero, List.set_cons_succ])
    refine wpTil_move (i := 14) (v := ?_) rfl (by kernel_rfl) (by kernel_rfl) (by kernel_rfl) (fun _ _ _ h => h) (by rfl) (Or.inl ⟨by rfl, ?_⟩) (Or.inr hSd) ?_
    rotate_left
    focus
      intro w hSw
      go_simp
      try with_reducible rfl
    (try simp only [List.getElem_toArray, List.getElem_cons_succ, List.getElem_cons_zero, Act.put, List.setIfInBounds_toArray, List.set_cons_zero, List.set_cons_succ])
    refine wpTil_move (i := 7) (v := ?_) rfl (by kernel_rfl) (by kernel_rfl) (by kernel_rfl) (fun _ _ _ h => h) (by rfl) (Or.inl ⟨by rfl, ?_⟩) (Or.inr hSd) ?_
    rotate_left
    focus
      intro w hSw
      go_simp
      try with_reducible rfl
    (try simp only [List.getElem_toArray, List.getElem_cons_succ, List.getElem_cons_zero, Act.put, List.setIfInBounds_toArray, List.set_cons_zero, List.set_cons_succ])
    refine wpTil_move (i := 15) (v := ?_) rfl (by kernel_rfl) (by kernel_rfl) (by kernel_rfl) (fun _ _ _ h => h) (by rfl) (Or.inl ⟨by rfl, ?_⟩) (Or.inr hSd) ?_
    rotate_left
    focus
      intro w hSw
      go_simp
      try with_reducible rfl
    (try simp only [List.getElem_toArray, List.getElem_cons_succ, List.getElem_cons_zero, Act.put, List.setIfInBounds_toArray, List.set_cons_zero, List.set_cons_succ])
    refine wpTil_take (i := 8) (v := ?_) rfl (by kernel_rfl) (by kernel_rfl) (by kernel_rfl) (fun _ _ _ h => h) (by rfl) (by kernel_rfl) (by kernel_rfl) (Or.inl ⟨by rfl, ?_⟩) hSd ?_
    rotate_left
    focus
      intro w hSw
      obtain ⟨s0, s1, s2, s3⟩ := hSw
      go_simp
      try with_reducible rfl
    (try simp only [List.getElem_toArray, List.getElem_cons_succ, List.getElem_cons_zero, Act.put, List.setIfInBounds_toArray, List.set_cons_zero, List.set_cons_succ])
    refine wpTil_take (i := 16) (v := ?_) rfl (by kernel_rfl) (by kernel_rfl) (by kernel_rfl) (fun _ _ _ h => h) (by rfl) (by kernel_rfl) (by kernel_rfl) (Or.inl ⟨by rfl, ?_⟩) hSd ?_
    rotate_left
    focus
      intro w hSw
      obtain ⟨s0, s1, s2, s3⟩ := hSw
      go_simp
      try with_reducible rfl
    (try simp only [List.getElem_toArray, List.getElem_cons_succ, List.getElem_cons_zero, Act.put, List.setIfInBounds_toArray, List.set_cons_zero, List.set_cons_succ])
    refine wpTil_ready (rs := [2, 10]) (by kernel_rfl) (by simp) ?_
    refine AllTil.cons rfl (fun K hK => ?_) ?_
    focus
      rw [if_pos (by rfl)]
      go_simp
      obtain ⟨wL1, hwL1⟩ : ∃ W, W = wd.alloc (.cells #[] 3) := ⟨_, rfl⟩
      obtain ⟨H1, hH1⟩ : ∃ H, wd.heap.size = H := ⟨_, rfl⟩
      have bx1 : Box wL1 H1 #[] 3 := by rw [hwL1, ← hH1]; exact Box.new _ _ _
      have sz1 : wL1.heap.size ≤ H1 + 1 := by rw [hwL1, World.size_alloc, hH1]; exact Nat.le_refl _
      have sy1 : H1 + 1 ≤ wL1.heap.size := by rw [hwL1, World.size_alloc, hH1]; exact Nat.le_refl _
      have sx1 : wd.heap.size ≤ H1 := by omega
      have sw1 : H1 ≤ wd.heap.size := by omega
      have fr1 : ∀ g, g < H1 → wL1.heap[g]? = wd.heap[g]? := fun g hg => by rw [hwL1]; exact Below.heap_alloc _ _ _ (by omega)
      have bwL1 : Below wo.heap.size wo wL1 := by rw [hwL1]; exact bwd.alloc (by have := bwd.size; omega) _
      have FwL1 : ∀ g, g < wo.heap.size → wL1.heap[g]? = wo.heap[g]? := bwL1.block
      rw [← hwL1, hH1]
      clear hwL1 hH1
      have lh1 : wo.heap.size ≤ H1 := by have := bwd.size; omega
      refine hK.out _ _ ⟨(World.cell?_of_block (a := ⟨h5, 0, none⟩) (FwL1 _ lh5)).trans p0, (World.cell?_of_block (a := ⟨h5 + 1 + 1, 0, none⟩) (FwL1 _ lh6)).trans c6, (World.cell?_of_block (a := ⟨bg, og + k * 2, none⟩) (FwL1 _ lbg)).trans e0, (World.cell?_of_block (a := ⟨bg, og + k * 2 + 1, none⟩) (FwL1 _ lbg)).trans e1⟩ ?_
      clear hK K
      (try simp only [List.getElem_toArray, List.getElem_cons_succ, List.getElem_cons_zero, Act.put, List.setIfInBounds_toArray, List.set_cons_zero, List.set_cons_succ])
      refine wpTil_ready (rs := [9, 10]) (by kernel_rfl) (by simp) ?_
      refine AllTil.cons rfl (fun K hK => ?_) ?_
      focus
        refine step_append_row _ (by rfl) _ _ _ (by rfl) i0 _ Try.underlying26 HI.out iz0 iz1 iz2 rfl H1 (by rfl) bx1 B Ar rl cr o.refs (by rfl) HRL.out (HSR.out _ bwL1) hr8 ?_
        intro g1 cap1 wA howA hgwA hvwA hlwA
        have sPwA := bwL1.size
        have bwA : Below wo.heap.size wo wA := Below.grown bwL1 hgwA sPwA (by intro kk hkk; injection hkk with hkk; omega)
        have swA := hgwA.size
        have frwA : ∀ g, g < wL1.heap.size → g ≠ H1 → wA.heap[g]? = wL1.heap[g]? := fun g hg hne => hgwA.block g hg (fun e => by injection e with e; exact hne e)
        have FwA : ∀ g, g < wo.heap.size → wA.heap[g]? = wo.heap[g]? := bwA.block
        refine hK.out _ _ ⟨(World.cell?_of_block (a := ⟨h5, 0, none⟩) (FwA _ lh5)).trans p0, (World.cell?_of_block (a := ⟨h5 + 1 + 1, 0, none⟩) (FwA _ lh6)).trans c6, (World.cell?_of_block (a := ⟨bg, og + k * 2, none⟩) (FwA _ lbg)).trans e0, (World.cell?_of_block (a := ⟨bg, og + k * 2 + 1, none⟩) (FwA _ lbg)).trans e1⟩ ?_
        clear hK K
        (try simp only [List.getElem_toArray, List.getElem_cons_succ, List.getElem_cons_zero, Act.put, List.setIfInBounds_toArray, List.set_cons_zero, List.set_cons_succ])
        refine wpTil_ready (rs := [10]) (by kernel_rfl) (by simp) ?_
        refine AllTil.cons rfl (fun K hK => ?_) AllTil.nil
        rw [if_pos (by rfl)]
        go_simp
        obtain ⟨wL2, hwL2⟩ : ∃ W, W = wA.alloc (.cells #[] 3) := ⟨_, rfl⟩
        obtain ⟨H2, hH2⟩ : ∃ H, wA.heap.size = H := ⟨_, rfl⟩
        have bx2 : Box wL2 H2 #[] 3 := by rw [hwL2, ← hH2]; exact Box.new _ _ _
        have sz2 : wL2.heap.size ≤ H2 + 1 := by rw [hwL2, World.size_alloc, hH2]; exact Nat.le_refl _
        have sy2 : H2 + 1 ≤ wL2.heap.size := by rw [hwL2, World.size_alloc, hH2]; exact Nat.le_refl _
        have sx2 : wA.heap.size ≤ H2 := by omega
        have sw2 : H2 ≤ wA.heap.size := by omega
        have fr2 : ∀ g, g < H2 → wL2.heap[g]? = wA.heap[g]? := fun g hg => by rw [hwL2]; exact Below.heap_alloc _ _ _ (by omega)
        have bwL2 : Below wo.heap.size wo wL2 := by rw [hwL2]; exact bwA.alloc (by have := bwA.size; omega) _
        have FwL2 : ∀ g, g < wo.heap.size → wL2.heap[g]? = wo.heap[g]? := bwL2.block
        rw [← hwL2, hH2]
        clear hwL2 hH2
        have lh2 : wo.heap.size ≤ H2 := by have := bwA.size; omega
        refine hK.out _ _ ⟨(World.cell?_of_block (a := ⟨h5, 0, none⟩) (FwL2 _ lh5)).trans p0, (World.cell?_of_block (a := ⟨h5 + 1 + 1, 0, none⟩) (FwL2 _ lh6)).trans c6, (World.cell?_of_block (a := ⟨bg, og + k * 2, none⟩) (FwL2 _ lbg)).trans e0, (World.cell?_of_block (a := ⟨bg, og + k * 2 + 1, none⟩) (FwL2 _ lbg)).trans e1⟩ ?_
        clear hK K
        (try simp only [List.getElem_toArray, List.getElem_cons_succ, List.getElem_cons_zero, Act.put, List.setIfInBounds_toArray, List.set_cons_zero, List.set_cons_succ])
        refine wpTil_ready (rs := [17]) (by kernel_rfl) (by simp) ?_
        refine AllTil.cons rfl (fun K hK => ?_) AllTil.nil
        refine step_append_row _ (by rfl) _ _ _ (by rfl) i0 _ Try.underlying26 HI.out iz0 iz1 iz2 rfl H2 (by rfl) bx2 B Ai il ci o.ints (by rfl) HIL.out (HSI.out _ bwL2) hi8 ?_
        intro g2 cap2 wB howB hgwB hvwB hlwB
        have sPwB := bwL2.size
        have bwB : Below wo.heap.size wo wB := Below.grown bwL2 hgwB sPwB (by intro kk hkk; injection hkk with hkk; omega)
        have swB := hgwB.size
        have frwB : ∀ g, g < wL2.heap.size → g ≠ H2 → wB.heap[g]? = wL2.heap[g]? := fun g hg hne => hgwB.block g hg (fun e => by injection e with e; exact hne e)
        have FwB : ∀ g, g < wo.heap.size → wB.heap[g]? = wo.heap[g]? := bwB.block
        refine hK.out _ _ ⟨(World.cell?_of_block (a := ⟨h5, 0, none⟩) (FwB _ lh5)).trans p0, (World.cell?_of_block (a := ⟨h5 + 1 + 1, 0, none⟩) (FwB _ lh6)).trans c6, (World.cell?_of_block (a := ⟨bg, og + k * 2, none⟩) (FwB _ lbg)).trans e0, (World.cell?_of_block (a := ⟨bg, og + k * 2 + 1, none⟩) (FwB _ lbg)).trans e1⟩ ?_
        clear hK K
        (try simp only [List.getElem_toArray, List.getElem_cons_succ, List.getElem_cons_zero, Act.put, List.setIfInBounds_toArray, List.set_cons_zero, List.set_cons_succ])
        refine wpTil_move (i := 18) (v := ?_) rfl (by kernel_rfl) (by kernel_rfl) (by kernel_rfl) (fun _ _ _ h => h) (by rfl) (Or.inl ⟨by rfl, ?_⟩) (Or.inr ⟨(World.cell?_of_block (a := ⟨h5, 0, none⟩) (FwB _ lh5)).trans p0, (World.cell?_of_block (a := ⟨h5 + 1 + 1, 0, none⟩) (FwB _ lh6)).trans c6, (World.cell?_of_block (a := ⟨bg, og + k * 2, none⟩) (FwB _ lbg)).trans e0, (World.cell?_of_block (a := ⟨bg, og + k * 2 + 1, none⟩) (FwB _ lbg)).trans e1⟩) ?_
        rotate_left
        focus
          intro w hSw
          go_simp
          try with_reducible rfl
        (try simp only [List.getElem_toArray, List.getElem_cons_succ, List.getElem_cons_zero, Act.put, List.setIfInBounds_toArray, List.set_cons_zero, List.set_cons_succ])
        refine wpTil_ready (rs := [19]) (by kernel_rfl) (by simp) ?_
        refine AllTil.cons rfl (fun K hK => ?_) AllTil.nil
        rw [if_pos (by rfl)]
        go_simp
        obtain ⟨wM, hwM⟩ : ∃ W, W = wB.alloc (.cells #[.slice (some ⟨g1, 0, none⟩) rl cap1, .slice (some ⟨g2, 0, none⟩) il cap2] 43) := ⟨_, rfl⟩
        obtain ⟨HM, hHM⟩ : ∃ H, wB.heap.size = H := ⟨_, rfl⟩
        have bxM : Box wM HM #[.slice (some ⟨g1, 0, none⟩) rl cap1, .slice (some ⟨g2, 0, none⟩) il cap2] 43 := by rw [hwM, ← hHM]; exact Box.new _ _ _
        have szM : wM.heap.size ≤ HM + 1 := by rw [hwM, World.size_alloc, hHM]; exact Nat.le_refl _
        have syM : HM + 1 ≤ wM.heap.size := by rw [hwM, World.size_alloc, hHM]; exact Nat.le_refl _
        have sxM : wB.heap.size ≤ HM := by omega
        have swM : HM ≤ wB.heap.size := by omega
        have frM : ∀ g, g < HM → wM.heap[g]? = wB.heap[g]? := fun g hg => by rw [hwM]; exact Below.heap_alloc _ _ _ (by omega)
        have bwM : Below wo.heap.size wo wM := by rw [hwM]; exact bwB.alloc (by have := bwB.size; omega) _
        have FwM : ∀ g, g < wo.heap.size → wM.heap[g]? = wo.heap[g]? := bwM.block
        rw [← hwM, hHM]
        clear hwM hHM
        refine hK.out _ _ ⟨(World.cell?_of_block (a := ⟨h5, 0, none⟩) (FwM _ lh5)).trans p0, (World.cell?_of_block (a := ⟨h5 + 1 + 1, 0, none⟩) (FwM _ lh6)).trans c6, (World.cell?_of_block (a := ⟨bg, og + k * 2, none⟩) (FwM _ lbg)).trans e0, (World.cell?_of_block (a := ⟨bg, og + k * 2 + 1, none⟩) (FwM _ lbg)).trans e1⟩ ?_
        clear hK K
        (try simp only [List.getElem_toArray, List.getElem_cons_succ, List.getElem_cons_zero, Act.put, List.setIfInBounds_toArray, List.set_cons_zero, List.set_cons_succ])
        refine wpTil_ready (rs := [20]) (by kernel_rfl) (by simp) ?_
        refine AllTil.cons rfl (fun K hK => ?_) AllTil.nil
        refine step_append_c (c := objC) (T := 43) (sz := 2) _ (by rfl) _ _ _ (by rfl) w1.heap.size j0 _ 48 Try.underlying22 HJ.out jz0 jz1 jz2 rfl (by omega) (by omega) u l (by rfl) (HOW.out.kept (fun g hg => FwM g (HUB.out g hg).2.1)) (o, .slice (some ⟨g1, 0, none⟩) rl cap1, .slice (some ⟨g2, 0, none⟩) il cap2) rfl (by intro q hq; simp [objC] at hq; rcases hq with rfl | rfl <;> rfl) HM _ bxM (by rfl) (by rfl) HLN.out (by have := bwM.size; have := HBB.out.size; omega) ?_
        intro g5 cap5 w5 ho5 hg5 hv5 hl5
        have fr5 : ∀ g, g < wM.heap.size → some g ≠ u.ownBlock → w5.heap[g]? = wM.heap[g]? := fun g hg hne => hg5.block g hg hne
        have sP5 := bwM.size
        have s5 := hg5.size
        have b5 : Below (h5 + 1 + 1) wo w5 := Below.grown (bwM.mono (by omega)) hg5 (by omega) (by intro kk hkk; have := (HUB.out kk hkk).1; omega)
        have F5 : ∀ g, g < wo.heap.size → some g ≠ u.ownBlock → w5.heap[g]? = wo.heap[g]? := fun g hg hne => (fr5 g (by omega) hne).trans (FwM g hg)
        refine hK.out _ _ ⟨(World.cell?_of_block (a := ⟨h5, 0, none⟩) (F5 _ lh5 HN5.out)).trans p0, (World.cell?_of_block (a := ⟨h5 + 1 + 1, 0, none⟩) (F5 _ lh6 HN6.out)).trans c6, (World.cell?_of_block (a := ⟨bg, og + k * 2, none⟩) (F5 _ lbg HNg.out)).trans e0, (World.cell?_of_block (a := ⟨bg, og + k * 2 + 1, none⟩) (F5 _ lbg HNg.out)).trans e1⟩ ?_
        have c65 : w5.cell? ⟨h5 + 1 + 1, 0, none⟩ = some u := (World.cell?_of_block (a := ⟨h5 + 1 + 1, 0, none⟩) (F5 _ lh6 HN6.out)).trans c6
        have f65 : w5.frozen? ⟨h5 + 1 + 1, 0, none⟩ = false := (World.frozen?_of_block (a := ⟨h5 + 1 + 1, 0, none⟩) (F5 _ lh6 HN6.out)).trans f6
        clear hK K
        (try simp only [List.getElem_toArray, List.getElem_cons_succ, List.getElem_cons_zero, Act.put, List.setIfInBounds_toArray, List.set_cons_zero, List.set_cons_succ])
        refine wpTil_move (i := 21) (v := ?_) rfl (by kernel_rfl) (by kernel_rfl) (by kernel_rfl) (fun _ _ _ h => h) (by rfl) (Or.inl ⟨by rfl, ?_⟩) (Or.inr ⟨(World.cell?_of_block (a := ⟨h5, 0, none⟩) (F5 _ lh5 HN5.out)).trans p0, (World.cell?_of_block (a := ⟨h5 + 1 + 1, 0, none⟩) (F5 _ lh6 HN6.out)).trans c6, (World.cell?_of_block (a := ⟨bg, og + k * 2, none⟩) (F5 _ lbg HNg.out)).trans e0, (World.cell?_of_block (a := ⟨bg, og + k * 2 + 1, none⟩) (F5 _ lbg HNg.out)).trans e1⟩) ?_
        rotate_left
        focus
          intro w hSw
          go_simp
          try with_reducible rfl
        (try simp only [List.getElem_toArray, List.getElem_cons_succ, List.getElem_cons_zero, Act.put, List.setIfInBounds_toArray, List.set_cons_zero, List.set_cons_succ])
        refine wpTil_ready (rs := [22]) (by kernel_rfl) (by simp) ?_
        refine AllTil.last rfl (by rfl) (fun K hK => ?_)
        rw [if_pos (by rfl)]
        go_simp
        refine hK.out _ _ ?_
        clear hK K
        (try simp only [List.getElem_toArray, List.getElem_cons_succ, List.getElem_cons_zero, Act.put, List.setIfInBounds_toArray, List.set_cons_zero, List.set_cons_succ])
        refine wpTil_done (by kernel_rfl) ?_ _
        have hgA1 : wo.heap.size ≤ g1 := by rcases hvwA with h | h <;> omega
        have hgB1 : wo.heap.size ≤ g2 := by rcases hvwB with h | h <;> omega
        have hg12 : g1 ≠ g2 := by rcases hvwA with h | h <;> rcases hvwB with h2 | h2 <;> omega
        have hgu : ∀ g, wo.heap.size ≤ g → some g ≠ u.ownBlock := fun g hg e => by have := (HUB.out g e.symm).2.1; omega
        have hrB : ∀ g, g = g1 → wB.heap[g]? = wA.heap[g]? := fun g hg => by subst hg; (first | exact frwB _ (by omega) (by omega) | exact (frwB _ (by omega) (by omega)).trans (fr2 _ (by omega)))
        have r1 : Ow w5 wo.heap.size 3 .i64 (.slice (some ⟨g1, 0, none⟩) rl cap1) o.refs := (howA.lower (by omega)).kept' (fun g hg => by injection hg with hg; subst hg; exact (fr5 _ (by omega) (hgu _ hgA1)).trans ((frM _ (by omega)).trans (hrB _ rfl)))
        have r2 : Ow w5 wo.heap.size 3 .i64 (.slice (some ⟨g2, 0, none⟩) il cap2) o.ints := (howB.lower (by omega)).kept' (fun g hg => by injection hg with hg; subst hg; exact (fr5 _ (by omega) (hgu _ hgB1)).trans (frM _ (by omega)))
        have HCN := hide (CpW.step HBX.out HOW.out HLM.out HRW.out HBB.out h5u HOO.out F5 b5 r1 r2 (fun g hg hg2 => by injection hg with hg; injection hg2 with hg2; exact hg12 (hg.trans hg2.symm)) ho5)
        go_wp2
        go_roundw
        case rel => exact ⟨k + 1, by omega, by go_num, HCN⟩
        case measure => simp [intOf]; omega
      refine AllTil.cons rfl (fun K hK => ?_) AllTil.nil
      rw [if_pos (by rfl)]
      go_simp
      obtain ⟨wL2, hwL2⟩ : ∃ W, W = wL1.alloc (.cells #[] 3) := ⟨_, rfl⟩
      obtain ⟨H2, hH2⟩ : ∃ H, wL1.heap.size = H := ⟨_, rfl⟩
      have bx2 : Box wL2 H2 #[] 3 := by rw [hwL2, ← hH2]; exact Box.new _ _ _
      have sz2 : wL2.heap.size ≤ H2 + 1 := by rw [hwL2, World.size_alloc, hH2]; exact Nat.le_refl _
      have sy2 : H2 + 1 ≤ wL2.heap.size := by rw [hwL2, World.size_alloc, hH2]; exact Nat.le_refl _
      have sx2 : wL1.heap.size ≤ H2 := by omega
      have sw2 : H2 ≤ wL1.heap.size := by omega
      have fr2 : ∀ g, g < H2 → wL2.heap[g]? = wL1.heap[g]? := fun g hg => by rw [hwL2]; exact Below.heap_alloc _ _ _ (by omega)
      have bwL2 : Below wo.heap.size wo wL2 := by rw [hwL2]; exact bwL1.alloc (by have := bwL1.size; omega) _
      have FwL2 : ∀ g, g < wo.heap.size → wL2.heap[g]? = wo.heap[g]? := bwL2.block
      rw [← hwL2, hH2]
      clear hwL2 hH2
      have lh2 : wo.heap.size ≤ H2 := by have := bwL1.size; omega
      refine hK.out _ _ ⟨(World.cell?_of_block (a := ⟨h5, 0, none⟩) (FwL2 _ lh5)).trans p0, (World.cell?_of_block (a := ⟨h5 + 1 + 1, 0, none⟩) (FwL2 _ lh6)).trans c6, (World.cell?_of_block (a := ⟨bg, og + k * 2, none⟩) (FwL2 _ lbg)).trans e0, (World.cell?_of_block (a := ⟨bg, og + k * 2 + 1, none⟩) (FwL2 _ lbg)).trans e1⟩ ?_
      clear hK K
      (try simp only [List.getElem_toArray, List.getElem_cons_succ, List.getElem_cons_zero, Act.put, List.setIfInBounds_toArray, List.set_cons_zero, List.set_cons_succ])
      refine wpTil_ready (rs := [9]) (by kernel_rfl) (by simp) ?_
      refine AllTil.cons rfl (fun K hK => ?_) AllTil.nil
      refine step_append_row _ (by rfl) _ _ _ (by rfl) i0 _ Try.underlying26 HI.out iz0 iz1 iz2 rfl H1 (by rfl) (Box.kept9 (fr2 _ (by have := bx1.lt; omega)) bx1) B Ar rl cr o.refs (by rfl) HRL.out (HSR.out _ bwL2) hr8 ?_
      intro g1 cap1 wA howA hgwA hvwA hlwA
      have sPwA := bwL2.size
      have bwA : Below wo.heap.size wo wA := Below.grown bwL2 hgwA sPwA (by intro kk hkk; injection hkk with hkk; omega)
      have swA := hgwA.size
      have frwA : ∀ g, g < wL2.heap.size → g ≠ H1 → wA.heap[g]? = wL2.heap[g]? := fun g hg hne => hgwA.block g hg (fun e => by injection e with e; exact hne e)
      have FwA : ∀ g, g < wo.heap.size → wA.heap[g]? = wo.heap[g]? := bwA.block
      refine hK.out _ _ ⟨(World.cell?_of_block (a := ⟨h5, 0, none⟩) (FwA _ lh5)).trans p0, (World.cell?_of_block (a := ⟨h5 + 1 + 1, 0, none⟩) (FwA _ lh6)).trans c6, (World.cell?_of_block (a := ⟨bg, og + k * 2, none⟩) (FwA _ lbg)).trans e0, (World.cell?_of_block (a := ⟨bg, og + k * 2 + 1, none⟩) (FwA _ lbg)).trans e1⟩ ?_
      clear hK K
      (try simp only [List.getElem_toArray, List.getElem_cons_succ, List.getElem_cons_zero, Act.put, List.setIfInBounds_toArray, List.set_cons_zero, List.set_cons_succ])
      refine wpTil_ready (rs := [17]) (by kernel_rfl) (by simp) ?_
      refine AllTil.cons rfl (fun K hK => ?_) AllTil.nil
      refine step_append_row _ (by rfl) _ _ _ (by rfl) i0 _ Try.underlying26 HI.out iz0 iz1 iz2 rfl H2 (by rfl) (Box.kept9 (frwA _ (by have := bx2.lt; omega) (by omega)) bx2) B Ai il ci o.ints (by rfl) HIL.out (HSI.out _ bwA) hi8 ?_
      intro g2 cap2 wB howB hgwB hvwB hlwB
      have sPwB := bwA.size
      have bwB : Below wo.heap.size wo wB := Below.grown bwA hgwB sPwB (by intro kk hkk; injection hkk with hkk; omega)
      have swB := hgwB.size
      have frwB : ∀ g, g < wA.heap.size → g ≠ H2 → wB.heap[g]? = wA.heap[g]? := fun g hg hne => hgwB.block g hg (fun e => by injection e with e; exact hne e)
      have FwB : ∀ g, g < wo.heap.size → wB.heap[g]? = wo.heap[g]? := bwB.block
      refine hK.out _ _ ⟨(World.cell?_of_block (a := ⟨h5, 0, none⟩) (FwB _ lh5)).trans p0, (World.cell?_of_block (a := ⟨h5 + 1 + 1, 0, none⟩) (FwB _ lh6)).trans c6, (World.cell?_of_block (a := ⟨bg, og + k * 2, none⟩) (FwB _ lbg)).trans e0, (World.cell?_of_block (a := ⟨bg, og + k * 2 + 1, none⟩) (FwB _ lbg)).trans e1⟩ ?_
      clear hK K
      (try simp only [List.getElem_toArray, List.getElem_cons_succ, List.getElem_cons_zero, Act.put, List.setIfInBounds_toArray, List.set_cons_zero, List.set_cons_succ])
      refine wpTil_move (i := 18) (v := ?_) rfl (by kernel_rfl) (by kernel_rfl) (by kernel_rfl) (fun _ _ _ h => h) (by rfl) (Or.inl ⟨by rfl, ?_⟩) (Or.inr ⟨(World.cell?_of_block (a := ⟨h5, 0, none⟩) (FwB _ lh5)).trans p0, (World.cell?_of_block (a := ⟨h5 + 1 + 1, 0, none⟩) (FwB _ lh6)).trans c6, (World.cell?_of_block (a := ⟨bg, og + k * 2, none⟩) (FwB _ lbg)).trans e0, (World.cell?_of_block (a := ⟨bg, og + k * 2 + 1, none⟩) (FwB _ lbg)).trans e1⟩) ?_
      rotate_left
      focus
        intro w hSw
        go_simp
        try with_reducible rfl
      (try simp only [List.getElem_toArray, List.getElem_cons_succ, List.getElem_cons_zero, Act.put, List.setIfInBounds_toArray, List.set_cons_zero, List.set_cons_succ])
      refine wpTil_ready (rs := [19]) (by kernel_rfl) (by simp) ?_
      refine AllTil.cons rfl (fun K hK => ?_) AllTil.nil
      rw [if_pos (by rfl)]
      go_simp
      obtain ⟨wM, hwM⟩ : ∃ W, W = wB.alloc (.cells #[.slice (some ⟨g1, 0, none⟩) rl cap1, .slice (some ⟨g2, 0, none⟩) il cap2] 43) := ⟨_, rfl⟩
      obtain ⟨HM, hHM⟩ : ∃ H, wB.heap.size = H := ⟨_, rfl⟩
      have bxM : Box wM HM #[.slice (some ⟨g1, 0, none⟩) rl cap1, .slice (some ⟨g2, 0, none⟩) il cap2] 43 := by rw [hwM, ← hHM]; exact Box.new _ _ _
      have szM : wM.heap.size ≤ HM + 1 := by rw [hwM, World.size_alloc, hHM]; exact Nat.le_refl _
      have syM : HM + 1 ≤ wM.heap.size := by rw [hwM, World.size_alloc, hHM]; exact Nat.le_refl _
      have sxM : wB.heap.size ≤ HM := by omega
      have swM : HM ≤ wB.heap.size := by omega
      have frM : ∀ g, g < HM → wM.heap[g]? = wB.heap[g]? := fun g hg => by rw [hwM]; exact Below.heap_alloc _ _ _ (by omega)
      have bwM : Below wo.heap.size wo wM := by rw [hwM]; exact bwB.alloc (by have := bwB.size; omega) _
      have FwM : ∀ g, g < wo.heap.size → wM.heap[g]? = wo.heap[g]? := bwM.block
      rw [← hwM, hHM]
      clear hwM hHM
      refine hK.out _ _ ⟨(World.cell?_of_block (a := ⟨h5, 0, none⟩) (FwM _ lh5)).trans p0, (World.cell?_of_block (a := ⟨h5 + 1 + 1, 0, none⟩) (FwM _ lh6)).trans c6, (World.cell?_of_block (a := ⟨bg, og + k * 2, none⟩) (FwM _ lbg)).trans e0, (World.cell?_of_block (a := ⟨bg, og + k * 2 + 1, none⟩) (FwM _ lbg)).trans e1⟩ ?_
      clear hK K
      (try simp only [List.getElem_toArray, List.getElem_cons_succ, List.getElem_cons_zero, Act.put, List.setIfInBounds_toArray, List.set_cons_zero, List.set_cons_succ])
      refine wpTil_ready (rs := [20]) (by kernel_rfl) (by simp) ?_
      refine AllTil.cons rfl (fun K hK => ?_) AllTil.nil
      refine step_append_c (c := objC) (T := 43) (sz := 2) _ (by rfl) _ _ _ (by rfl) w1.heap.size j0 _ 48 Try.underlying22 HJ.out jz0 jz1 jz2 rfl (by omega) (by omega) u l (by rfl) (HOW.out.kept (fun g hg => FwM g (HUB.out g hg).2.1)) (o, .slice (some ⟨g1, 0, none⟩) rl cap1, .slice (some ⟨g2, 0, none⟩) il cap2) rfl (by intro q hq; simp [objC] at hq; rcases hq with rfl | rfl <;> rfl) HM _ bxM (by rfl) (by rfl) HLN.out (by have := bwM.size; have := HBB.out.size; omega) ?_
      intro g5 cap5 w5 ho5 hg5 hv5 hl5
      have fr5 : ∀ g, g < wM.heap.size → some g ≠ u.ownBlock → w5.heap[g]? = wM.heap[g]? := fun g hg hne => hg5.block g hg hne
      have sP5 := bwM.size
      have s5 := hg5.size
      have b5 : Below (h5 + 1 + 1) wo w5 := Below.grown (bwM.mono (by omega)) hg5 (by omega) (by intro kk hkk; have := (HUB.out kk hkk).1; omega)
      have F5 : ∀ g, g < wo.heap.size → some g ≠ u.ownBlock → w5.heap[g]? = wo.heap[g]? := fun g hg hne => (fr5 g (by omega) hne).trans (FwM g hg)
      refine hK.out _ _ ⟨(World.cell?_of_block (a := ⟨h5, 0, none⟩) (F5 _ lh5 HN5.out)).trans p0, (World.cell?_of_block (a := ⟨h5 + 1 + 1, 0, none⟩) (F5 _ lh6 HN6.out)).trans c6, (World.cell?_of_block (a := ⟨bg, og + k * 2, none⟩) (F5 _ lbg HNg.out)).trans e0, (World.cell?_of_block (a := ⟨bg, og + k * 2 + 1, none⟩) (F5 _ lbg HNg.out)).trans e1⟩ ?_
      have c65 : w5.cell? ⟨h5 + 1 + 1, 0, none⟩ = some u := (World.cell?_of_block (a := ⟨h5 + 1 + 1, 0, none⟩) (F5 _ lh6 HN6.out)).trans c6
      have f65 : w5.frozen? ⟨h5 + 1 + 1, 0, none⟩ = false := (World.frozen?_of_block (a := ⟨h5 + 1 + 1, 0, none⟩) (F5 _ lh6 HN6.out)).trans f6
      clear hK K
      (try simp only [List.getElem_toArray, List.getElem_cons_succ, List.getElem_cons_zero, Act.put, List.setIfInBounds_toArray, List.set_cons_zero, List.set_cons_succ])
      refine wpTil_move (i := 21) (v := ?_) rfl (by kernel_rfl) (by kernel_rfl) (by kernel_rfl) (fun _ _ _ h => h) (by rfl) (Or.inl ⟨by rfl, ?_⟩) (Or.inr ⟨(World.cell?_of_block (a := ⟨h5, 0, none⟩) (F5 _ lh5 HN5.out)).trans p0, (World.cell?_of_block (a := ⟨h5 + 1 + 1, 0, none⟩) (F5 _ lh6 HN6.out)).trans c6, (World.cell?_of_block (a := ⟨bg, og + k * 2, none⟩) (F5 _ lbg HNg.out)).trans e0, (World.cell?_of_block (a := ⟨bg, og + k * 2 + 1, none⟩) (F5 _ lbg HNg.out)).trans e1⟩) ?_
      rotate_left
      focus
        intro w hSw
        go_simp
        try with_reducible rfl
      (try simp only [List.getElem_toArray, List.getElem_cons_succ, List.getElem_cons_zero, Act.put, List.setIfInBounds_toArray, List.set_cons_zero, List.set_cons_succ])
      refine wpTil_ready (rs := [22]) (by kernel_rfl) (by simp) ?_
      refine AllTil.last rfl (by rfl) (fun K hK => ?_)
      rw [if_pos (by rfl)]
      go_simp
      refine hK.out _ _ ?_
      clear hK K
      (try simp only [List.getElem_toArray, List.getElem_cons_succ, List.getElem_cons_zero, Act.put, List.setIfInBounds_toArray, List.set_cons_zero, List.set_cons_succ])
      refine wpTil_done (by kernel_rfl) ?_ _
      have hgA1 : wo.heap.size ≤ g1 := by rcases hvwA with h | h <;> omega
      have hgB1 : wo.heap.size ≤ g2 := by rcases hvwB with h | h <;> omega
      have hg12 : g1 ≠ g2 := by rcases hvwA with h | h <;> rcases hvwB with h2 | h2 <;> omega
      have hgu : ∀ g, wo.heap.size ≤ g → some g ≠ u.ownBlock := fun g hg e => by have := (HUB.out g e.symm).2.1; omega
      have hrB : ∀ g, g = g1 → wB.heap[g]? = wA.heap[g]? := fun g hg => by subst hg; (first | exact frwB _ (by omega) (by omega) | exact (frwB _ (by omega) (by omega)).trans (fr2 _ (by omega)))
      have r1 : Ow w5 wo.heap.size 3 .i64 (.slice (some ⟨g1, 0, none⟩) rl cap1) o.refs := (howA.lower (by omega)).kept' (fun g hg => by injection hg with hg; subst hg; exact (fr5 _ (by omega) (hgu _ hgA1)).trans ((frM _ (by omega)).trans (hrB _ rfl)))
      have r2 : Ow w5 wo.heap.size 3 .i64 (.slice (some ⟨g2, 0, none⟩) il cap2) o.ints := (howB.lower (by omega)).kept' (fun g hg => by injection hg with hg; subst hg; exact (fr5 _ (by omega) (hgu _ hgB1)).trans (frM _ (by omega)))
      have HCN := hide (CpW.step HBX.out HOW.out HLM.out HRW.out HBB.out h5u HOO.out F5 b5 r1 r2 (fun g hg hg2 => by injection hg with hg; injection hg2 with hg2; exact hg12 (hg.trans hg2.symm)) ho5)
      go_wp2
      go_roundw
      case rel => exact ⟨k + 1, by omega, by go_num, HCN⟩
      case measure => simp [intOf]; omega
    refine AllTil.cons rfl (fun K hK => ?_) AllTil.nil
    rw [if_pos (by rfl)]
    go_simp
    obtain ⟨wL2, hwL2⟩ : ∃ W, W = wd.alloc (.cells #[] 3) := ⟨_, rfl⟩
    obtain ⟨H2, hH2⟩ : ∃ H, wd.heap.size = H := ⟨_, rfl⟩
    have bx2 : Box wL2 H2 #[] 3 := by rw [hwL2, ← hH2]; exact Box.new _ _ _
    have sz2 : wL2.heap.size ≤ H2 + 1 := by rw [hwL2, World.size_alloc, hH2]; exact Nat.le_refl _
    have sy2 : H2 + 1 ≤ wL2.heap.size := by rw [hwL2, World.size_alloc, hH2]; exact Nat.le_refl _
    have sx2 : wd.heap.size ≤ H2 := by omega
    have sw2 : H2 ≤ wd.heap.size := by omega
    have fr2 : ∀ g, g < H2 → wL2.heap[g]? = wd.heap[g]? := fun g hg => by rw [hwL2]; exact Below.heap_alloc _ _ _ (by omega)
    have bwL2 : Below wo.heap.size wo wL2 := by rw [hwL2]; exact bwd.alloc (by have := bwd.size; omega) _
    have FwL2 : ∀ g, g < wo.heap.size → wL2.heap[g]? = wo.heap[g]? := bwL2.block
    rw [← hwL2, hH2]
    clear hwL2 hH2
    have lh2 : wo.heap.size ≤ H2 := by have := bwd.size; omega
    refine hK.out _ _ ⟨(World.cell?_of_block (a := ⟨h5, 0, none⟩) (FwL2 _ lh5)).trans p0, (World.cell?_of_block (a := ⟨h5 + 1 + 1, 0, none⟩) (FwL2 _ lh6)).trans c6, (World.cell?_of_block (a := ⟨bg, og + k * 2, none⟩) (FwL2 _ lbg)).trans e0, (World.cell?_of_block (a := ⟨bg, og + k * 2 + 1, none⟩) (FwL2 _ lbg)).trans e1⟩ ?_
    clear hK K
    (try simp only [List.getElem_toArray, List.getElem_cons_succ, List.getElem_cons_zero, Act.put, List.setIfInBounds_toArray, List.set_cons_zero, List.set_cons_succ])
    refine wpTil_ready (rs := [2]) (by kernel_rfl) (by simp) ?_
    refine AllTil.cons rfl (fun K hK => ?_) AllTil.nil
    rw [if_pos (by rfl)]
    go_simp
    obtain ⟨wL1, hwL1⟩ : ∃ W, W = wL2.alloc (.cells #[] 3) := ⟨_, rfl⟩
    obtain ⟨H1, hH1⟩ : ∃ H, wL2.heap.size = H := ⟨_, rfl⟩
    have bx1 : Box wL1 H1 #[] 3 := by rw [hwL1, ← hH1]; exact Box.new _ _ _
    have sz1 : wL1.heap.size ≤ H1 + 1 := by rw [hwL1, World.size_alloc, hH1]; exact Nat.le_refl _
    have sy1 : H1 + 1 ≤ wL1.heap.size := by rw [hwL1, World.size_alloc, hH1]; exact Nat.le_refl _
    have sx1 : wL2.heap.size ≤ H1 := by omega
    have sw1 : H1 ≤ wL2.heap.size := by omega
    have fr1 : ∀ g, g < H1 → wL1.heap[g]? = wL2.heap[g]? := fun g hg => by rw [hwL1]; exact Below.heap_alloc _ _ _ (by omega)
    have bwL1 : Below wo.heap.size wo wL1 := by rw [hwL1]; exact bwL2.alloc (by have := bwL2.size; omega) _
    have FwL1 : ∀ g, g < wo.heap.size → wL1.heap[g]? = wo.heap[g]? := bwL1.block
    rw [← hwL1, hH1]
    clear hwL1 hH1
    have lh1 : wo.heap.size ≤ H1 := by have := bwL2.size; omega
    refine hK.out _ _ ⟨(World.cell?_of_block (a := ⟨h5, 0, none⟩) (FwL1 _ lh5)).trans p0, (World.cell?_of_block (a := ⟨h5 + 1 + 1, 0, none⟩) (FwL1 _ lh6)).trans c6, (World.cell?_of_block (a := ⟨bg, og + k * 2, none⟩) (FwL1 _ lbg)).trans e0, (World.cell?_of_block (a := ⟨bg, og + k * 2 + 1, none⟩) (FwL1 _ lbg)).trans e1⟩ ?_
    clear hK K
    (try simp only [List.getElem_toArray, List.getElem_cons_succ, List.getElem_cons_zero, Act.put, List.setIfInBounds_toArray, List.set_cons_zero, List.set_cons_succ])
    refine wpTil_ready (rs := [9]) (by kernel_rfl) (by simp) ?_
    refine AllTil.cons rfl (fun K hK => ?_) AllTil.nil
    refine step_append_row _ (by rfl) _ _ _ (by rfl) i0 _ Try.underlying26 HI.out iz0 iz1 iz2 rfl H1 (by rfl) bx1 B Ar rl cr o.refs (by rfl) HRL.out (HSR.out _ bwL1) hr8 ?_
    intro g1 cap1 wA howA hgwA hvwA hlwA
    have sPwA := bwL1.size
    have bwA : Below wo.heap.size wo wA := Below.grown bwL1 hgwA sPwA (by intro kk hkk; injection hkk with hkk; omega)
    have swA := hgwA.size
    have frwA : ∀ g, g < wL1.heap.size → g ≠ H1 → wA.heap[g]? = wL1.heap[g]? := fun g hg hne => hgwA.block g hg (fun e => by injection e with e; exact hne e)
    have FwA : ∀ g, g < wo.heap.size → wA.heap[g]? = wo.heap[g]? := bwA.block
    refine hK.out _ _ ⟨(World.cell?_of_block (a := ⟨h5, 0, none⟩) (FwA _ lh5)).trans p0, (World.cell?_of_block (a := ⟨h5 + 1 + 1, 0, none⟩) (FwA _ lh6)).trans c6, (World.cell?_of_block (a := ⟨bg, og + k * 2, none⟩) (FwA _ lbg)).trans e0, (World.cell?_of_block (a := ⟨bg, og + k * 2 + 1, none⟩) (FwA _ lbg)).trans e1⟩ ?_
    clear hK K
    (try simp only [List.getElem_toArray, List.getElem_cons_succ, List.getElem_cons_zero, Act.put, List.setIfInBounds_toArray, List.set_cons_zero, List.set_cons_succ])
    refine wpTil_ready (rs := [17]) (by kernel_rfl) (by simp) ?_
    refine AllTil.cons rfl (fun K hK => ?_) AllTil.nil
    refine step_append_row _ (by rfl) _ _ _ (by rfl) i0 _ Try.underlying26 HI.out iz0 iz1 iz2 rfl H2 (by rfl) (Box.kept9 (frwA _ (by have := (Box.kept9 (fr1 _ (by have := bx2.lt; omega)) bx2).lt; omega) (by omega)) (Box.kept9 (fr1 _ (by have := bx2.lt; omega)) bx2)) B Ai il ci o.ints (by rfl) HIL.out (HSI.out _ bwA) hi8 ?_
    intro g2 cap2 wB howB hgwB hvwB hlwB
    have sPwB := bwA.size
    have bwB : Below wo.heap.size wo wB := Below.grown bwA hgwB sPwB (by intro kk hkk; injection hkk with hkk; omega)
    have swB := hgwB.size
    have frwB : ∀ g, g < wA.heap.size → g ≠ H2 → wB.heap[g]? = wA.heap[g]? := fun g hg hne => hgwB.block g hg (fun e => by injection e with e; exact hne e)
    have FwB : ∀ g, g < wo.heap.size → wB.heap[g]? = wo.heap[g]? := bwB.block
    refine hK.out _ _ ⟨(World.cell?_of_block (a := ⟨h5, 0, none⟩) (FwB _ lh5)).trans p0, (World.cell?_of_block (a := ⟨h5 + 1 + 1, 0, none⟩) (FwB _ lh6)).trans c6, (World.cell?_of_block (a := ⟨bg, og + k * 2, none⟩) (FwB _ lbg)).trans e0, (World.cell?_of_block (a := ⟨bg, og + k * 2 + 1, none⟩) (FwB _ lbg)).trans e1⟩ ?_
    clear hK K
    (try simp only [List.getElem_toArray, List.getElem_cons_succ, List.getElem_cons_zero, Act.put, List.setIfInBounds_toArray, List.set_cons_zero, List.set_cons_succ])
    refine wpTil_move (i := 18) (v := ?_) rfl (by kernel_rfl) (by kernel_rfl) (by kernel_rfl) (fun _ _ _ h => h) (by rfl) (Or.inl ⟨by rfl, ?_⟩) (Or.inr ⟨(World.cell?_of_block (a := ⟨h5, 0, none⟩) (FwB _ lh5)).trans p0, (World.cell?_of_block (a := ⟨h5 + 1 + 1, 0, none⟩) (FwB _ lh6)).trans c6, (World.cell?_of_block (a := ⟨bg, og + k * 2, none⟩) (FwB _ lbg)).trans e0, (World.cell?_of_block (a := ⟨bg, og + k * 2 + 1, none⟩) (FwB _ lbg)).trans e1⟩) ?_
    rotate_left
    focus
      intro w hSw
      go_simp
      try with_reducible rfl
    (try simp only [List.getElem_toArray, List.getElem_cons_succ, List.getElem_cons_zero, Act.put, List.setIfInBounds_toArray, List.set_cons_zero, List.set_cons_succ])
    refine wpTil_ready (rs := [19]) (by kernel_rfl) (by simp) ?_
    refine AllTil.cons rfl (fun K hK => ?_) AllTil.nil
    rw [if_pos (by rfl)]
    go_simp
    obtain ⟨wM, hwM⟩ : ∃ W, W = wB.alloc (.cells #[.slice (some ⟨g1, 0, none⟩) rl cap1, .slice (some ⟨g2, 0, none⟩) il cap2] 43) := ⟨_, rfl⟩
    obtain ⟨HM, hHM⟩ : ∃ H, wB.heap.size = H := ⟨_, rfl⟩
    have bxM : Box wM HM #[.slice (some ⟨g1, 0, none⟩) rl cap1, .slice (some ⟨g2, 0, none⟩) il cap2] 43 := by rw [hwM, ← hHM]; exact Box.new _ _ _
    have szM : wM.heap.size ≤ HM + 1 := by rw [hwM, World.size_alloc, hHM]; exact Nat.le_refl _
    have syM : HM + 1 ≤ wM.heap.size := by rw [hwM, World.size_alloc, hHM]; exact Nat.le_refl _
    have sxM : wB.heap.size ≤ HM := by omega
    have swM : HM ≤ wB.heap.size := by omega
    have frM : ∀ g, g < HM → wM.heap[g]? = wB.heap[g]? := fun g hg => by rw [hwM]; exact Below.heap_alloc _ _ _ (by omega)
    have bwM : Below wo.heap.size wo wM := by rw [hwM]; exact bwB.alloc (by have := bwB.size; omega) _
    have FwM : ∀ g, g < wo.heap.size → wM.heap[g]? = wo.heap[g]? := bwM.block
    rw [← hwM, hHM]
    clear hwM hHM
    refine hK.out _ _ ⟨(World.cell?_of_block (a := ⟨h5, 0, none⟩) (FwM _ lh5)).trans p0, (World.cell?_of_block (a := ⟨h5 + 1 + 1, 0, none⟩) (FwM _ lh6)).trans c6, (World.cell?_of_block (a := ⟨bg, og + k * 2, none⟩) (FwM _ lbg)).trans e0, (World.cell?_of_block (a := ⟨bg, og + k * 2 + 1, none⟩) (FwM _ lbg)).trans e1⟩ ?_
    clear hK K
    (try simp only [List.getElem_toArray, List.getElem_cons_succ, List.getElem_cons_zero, Act.put, List.setIfInBounds_toArray, List.set_cons_zero, List.set_cons_succ])
    refine wpTil_ready (rs := [20]) (by kernel_rfl) (by simp) ?_
    refine AllTil.cons rfl (fun K hK => ?_) AllTil.nil
    refine step_append_c (c := objC) (T := 43) (sz := 2) _ (by rfl) _ _ _ (by rfl) w1.heap.size j0 _ 48 Try.underlying22 HJ.out jz0 jz1 jz2 rfl (by omega) (by omega) u l (by rfl) (HOW.out.kept (fun g hg => FwM g (HUB.out g hg).2.1)) (o, .slice (some ⟨g1, 0, none⟩) rl cap1, .slice (some ⟨g2, 0, none⟩) il cap2) rfl (by intro q hq; simp [objC] at hq; rcases hq with rfl | rfl <;> rfl) HM _ bxM (by rfl) (by rfl) HLN.out (by have := bwM.size; have := HBB.out.size; omega) ?_
    intro g5 cap5 w5 ho5 hg5 hv5 hl5
    have fr5 : ∀ g, g < wM.heap.size → some g ≠ u.ownBlock → w5.heap[g]? = wM.heap[g]? := fun g hg hne => hg5.block g hg hne
    have sP5 := bwM.size
    have s5 := hg5.size
    have b5 : Below (h5 + 1 + 1) wo w5 := Below.grown (bwM.mono (by omega)) hg5 (by omega) (by intro kk hkk; have := (HUB.out kk hkk).1; omega)
    have F5 : ∀ g, g < wo.heap.size → some g ≠ u.ownBlock → w5.heap[g]? = wo.heap[g]? := fun g hg hne => (fr5 g (by omega) hne).trans (FwM g hg)
    refine hK.out _ _ ⟨(World.cell?_of_block (a := ⟨h5, 0, none⟩) (F5 _ lh5 HN5.out)).trans p0, (World.cell?_of_block (a := ⟨h5 + 1 + 1, 0, none⟩) (F5 _ lh6 HN6.out)).trans c6, (World.cell?_of_block (a := ⟨bg, og + k * 2, none⟩) (F5 _ lbg HNg.out)).trans e0, (World.cell?_of_block (a := ⟨bg, og + k * 2 + 1, none⟩) (F5 _ lbg HNg.out)).trans e1⟩ ?_
    have c65 : w5.cell? ⟨h5 + 1 + 1, 0, none⟩ = some u := (World.cell?_of_block (a := ⟨h5 + 1 + 1, 0, none⟩) (F5 _ lh6 HN6.out)).trans c6
    have f65 : w5.frozen? ⟨h5 + 1 + 1, 0, none⟩ = false := (World.frozen?_of_block (a := ⟨h5 + 1 + 1, 0, none⟩) (F5 _ lh6 HN6.out)).trans f6
    clear hK K
    (try simp only [List.getElem_toArray, List.getElem_cons_succ, List.getElem_cons_zero, Act.put, List.setIfInBounds_toArray, List.set_cons_zero, List.set_cons_succ])
    refine wpTil_move (i := 21) (v := ?_) rfl (by kernel_rfl) (by kernel_rfl) (by kernel_rfl) (fun _ _ _ h => h) (by rfl) (Or.inl ⟨by rfl, ?_⟩) (Or.inr ⟨(World.cell?_of_block (a := ⟨h5, 0, none⟩) (F5 _ lh5 HN5.out)).trans p0, (World.cell?_of_block (a := ⟨h5 + 1 + 1, 0, none⟩) (F5 _ lh6 HN6.out)).trans c6, (World.cell?_of_block (a := ⟨bg, og + k * 2, none⟩) (F5 _ lbg HNg.out)).trans e0, (World.cell?_of_block (a := ⟨bg, og + k * 2 + 1, none⟩) (F5 _ lbg HNg.out)).trans e1⟩) ?_
    rotate_left
    focus
      intro w hSw
      go_simp
      try with_reducible rfl
    (try simp only [List.getElem_toArray, List.getElem_cons_succ, List.getElem_cons_zero, Act.put, List.setIfInBounds_toArray, List.set_cons_zero, List.set_cons_succ])
    refine wpTil_ready (rs := [22]) (by kernel_rfl) (by simp) ?_
    refine AllTil.last rfl (by rfl) (fun K hK => ?_)
    rw [if_pos (by rfl)]
    go_simp
    refine hK.out _ _ ?_
    clear hK K
    (try simp only [List.getElem_toArray, List.getElem_cons_succ, List.getElem_cons_zero, Act.put, List.setIfInBounds_toArray, List.set_cons_zero, List.set_cons_succ])
    refine wpTil_done (by kernel_rfl) ?_ _
    have hgA1 : wo.heap.size ≤ g1 := by rcases hvwA with h | h <;> omega
    have hgB1 : wo.heap.size ≤ g2 := by rcases hvwB with h | h <;> omega
    have hg12 : g1 ≠ g2 := by rcases hvwA with h | h <;> rcases hvwB with h2 | h2 <;> omega
    have hgu : ∀ g, wo.heap.size ≤ g → some g ≠ u.ownBlock := fun g hg e => by have := (HUB.out g e.symm).2.1; omega
    have hrB : ∀ g, g = g1 → wB.heap[g]? = wA.heap[g]? := fun g hg => by subst hg; (first | exact frwB _ (by omega) (by omega) | exact (frwB _ (by omega) (by omega)).trans (fr2 _ (by omega)))
    have r1 : Ow w5 wo.heap.size 3 .i64 (.slice (some ⟨g1, 0, none⟩) rl cap1) o.refs := (howA.lower (by omega)).kept' (fun g hg => by injection hg with hg; subst hg; exact (fr5 _ (by omega) (hgu _ hgA1)).trans ((frM _ (by omega)).trans (hrB _ rfl)))
    have r2 : Ow w5 wo.heap.size 3 .i64 (.slice (some ⟨g2, 0, none⟩) il cap2) o.ints := (howB.lower (by omega)).kept' (fun g hg => by injection hg with hg; subst hg; exact (fr5 _ (by omega) (hgu _ hgB1)).trans (frM _ (by omega)))
    have HCN := hide (CpW.step HBX.out HOW.out HLM.out HRW.out HBB.out h5u HOO.out F5 b5 r1 r2 (fun g hg hg2 => by injection hg with hg; injection hg2 with hg2; exact hg12 (hg.trans hg2.symm)) ho5)
    go_wp2
    go_roundw
    case rel => exact ⟨k + 1, by omega, by go_num, HCN⟩
    case measure => simp [intOf]; omega
/-- Copies read as what was copied. -/
theorem rows_objs {w : World} {base : Nat} {v : Value} {l : List ObjT} {h : List ObjV} (how : OwC objC 43 2 w base v l) (hrw : RowsW w base l) (hl : l.map (·.1) = h) (hR : ∀ o ∈ h, (∀ z ∈ o.refs, i64R z) ∧ ∀ z ∈ o.ints, i64R z) : ObjsV w (· < w.heap.size) v h := by
  subst hl
  refine objs_ow how fun p hp => ?_
  have h1 := hR p.1 (List.mem_map.2 ⟨p, hp, rfl⟩)
  exact ⟨(hrw.1 p hp).1.ints h1.1, (hrw.1 p hp).2.ints h1.2⟩
theorem ObjsV.rng {w : World} {B : Nat} {v : Value} {h : List ObjV} (hh : ObjsV w (· < B) v h) : ∀ o ∈ h, (∀ z ∈ o.refs, i64R z) ∧ ∀ z ∈ o.ints, i64R z := fun o ho => by
  obtain ⟨A, c, rfl, -, -⟩ := hh.open'
  obtain ⟨k, hk⟩ := List.mem_iff_getElem?.1 ho
  obtain ⟨b, o', Ar, cr, Ai, ci, -, -, -, hi⟩ := hh.get hk
  obtain ⟨_, _, _, _, _, _, h1⟩ := hi.1.sl
  obtain ⟨_, _, _, _, _, _, h2⟩ := hi.2.sl
  exact ⟨h1, h2⟩
/-- Copy, as the statements look at it. -/
theorem rcopyV_any (vh : Value) (h : List ObjV) (w : World) (hh : ObjsV w (· < w.heap.size) vh h) (hsm : small9 h) :
    Calls Try.prog 7 #[.agg #[vh]] w fun e w' => ∃ A c, e = .returned (.agg #[.slice A h.length c]) ∧ ObjsV w' (· < w'.heap.size) (.slice A h.length c) h ∧ Below w.heap.size w w' :=
  (rcopy_any vh h w w.heap.size (Nat.le_refl _) hh hsm).mono fun e w' ⟨v, l, h1, h2, h3, h4, h5⟩ => by
    have h6 := rows_objs h2 h4 h3 hh.rng
    obtain ⟨A, c, e1, -, -⟩ := h6.open'
    subst e1
    exact ⟨A, c, h1, h6, h5⟩
end Go.Proofs.Ytjlndibeaklcdaa
