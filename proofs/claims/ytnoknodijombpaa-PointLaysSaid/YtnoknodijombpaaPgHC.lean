/- Texts of several names, of which only what the statement needs is kept. -/
import Derived.Test.YtnoknodijombpaaPgZN
import Derived.Test.YtnoknodijombpaaPgRDo
import Derived.Deep.AppendLies
import Derived.Lib.SliceRun
/- Heaps as plain data, and what they read as in memory; what each call answers; what is reached. No condition. -/
set_option linter.unusedSimpArgs false
set_option linter.unusedVariables false
namespace Go.Proofs.Ytnoknodijombpaa
open Go.RowKit

structure ObjV where
  refs : List Int
  ints : List Int
instance : DecidableEq ObjV := fun x y =>
  decidable_of_iff (x.refs = y.refs ∧ x.ints = y.ints) (by
    cases x; cases y
    simp only [ObjV.mk.injEq])
def ObjI (w : World) (S : Nat → Prop) (vr vi : Value) (x : ObjV) : Prop := IntsV w S vr x.refs ∧ IntsV w S vi x.ints
def ObjC (w : World) (S : Nat → Prop) (b o : Nat) (x : ObjV) : Prop := ∃ vr vi, (w.cell? ⟨b, o, none⟩ = some vr ∧ w.cell? ⟨b, o + 1, none⟩ = some vi) ∧ ObjI w S vr vi x
/-- A heap in memory. -/
def ObjsV (w : World) (S : Nat → Prop) (v : Value) (h : List ObjV) : Prop := Vec 2 (ObjC w S) S v h
section
variable {w w' : World} {S S' : Nat → Prop}
theorem ObjI.keep {vr vi : Value} {x : ObjV} (h : ObjI w S vr vi x) (hk : Same' S w w') (hS : ∀ b, S b → S' b) : ObjI w' S' vr vi x := ⟨IntsV.keep h.1 hk hS, IntsV.keep h.2 hk hS⟩
theorem ObjsV.keep {v : Value} {xs : List ObjV} (h : ObjsV w S v xs) (hk : Same' S w w') (hS : ∀ b, S b → S' b) : ObjsV w' S' v xs :=
  Vec.mono h hS fun b o x hb _ ⟨vr, vi, ⟨h0, h1⟩, hi⟩ => ⟨vr, vi, ⟨(hk b _ hb).trans h0, (hk b _ hb).trans h1⟩, ObjI.keep hi hk hS⟩
theorem ObjsV.open' {v : Value} {xs : List ObjV} (h : ObjsV w S v xs) : ∃ A c, v = .slice A xs.length c ∧ xs.length ≤ c ∧ c ≤ 9223372036854775807 := by
  obtain ⟨A, c, e, h1, h2, -⟩ := h
  exact ⟨A, c, e, h1, h2⟩
theorem ObjsV.get {A : Option Addr} {n c k : Nat} {xs : List ObjV} {y : ObjV} (h : ObjsV w S (.slice A n c) xs) (hy : xs[k]? = some y) :
    ∃ b o Ar cr Ai ci, A = some ⟨b, o, none⟩ ∧ S b ∧ (w.cell? ⟨b, o + k * 2, none⟩ = some (.slice Ar y.refs.length cr) ∧ w.cell? ⟨b, o + k * 2 + 1, none⟩ = some (.slice Ai y.ints.length ci)) ∧ ObjI w S (.slice Ar y.refs.length cr) (.slice Ai y.ints.length ci) y := by
  obtain ⟨A', c', e, -, -, h3⟩ := h
  injection e with eA _ _
  subst eA
  obtain ⟨b, o, rfl, hb, hc⟩ := h3 (by have := (List.getElem?_eq_some_iff.1 hy).1; omega)
  obtain ⟨vr, vi, h5, hi⟩ := hc k y hy
  obtain ⟨Ar, cr, rfl, -, -⟩ := hi.1.open'
  obtain ⟨Ai, ci, rfl, -, -⟩ := hi.2.open'
  exact ⟨b, o, Ar, cr, Ai, ci, rfl, hb, h5, hi⟩
theorem ObjsV.below {v : Value} {xs : List ObjV} (h : ObjsV w (· < w.heap.size) v xs) (hb : Below w.heap.size w w') : ObjsV w' (· < w'.heap.size) v xs :=
  h.keep (up hb (Nat.le_refl _)) (fun b hb' => Nat.lt_of_lt_of_le hb' hb.size)
theorem IntsV.below {v : Value} {xs : List Int} (h : IntsV w (· < w.heap.size) v xs) (hb : Below w.heap.size w w') : IntsV w' (· < w'.heap.size) v xs :=
  h.keep (up hb (Nat.le_refl _)) (fun b hb' => Nat.lt_of_lt_of_le hb' hb.size)
end

/-- Whether a reference may be, an object, a heap. -/
def rfB (n : Nat) (z : Int) : Bool := decide (0 ≤ z) && decide (z ≤ n)
def objB (n : Nat) (o : ObjV) : Bool := decide (o.refs.length ≤ 8) && (decide (o.ints.length ≤ 8) && o.refs.all (rfB n))
def rightB (h : List ObjV) : Bool := h.all (objB h.length)
/-- What is reached. -/
inductive RcH (h : List ObjV) (roots : List Int) : Int → Prop
  | root {z : Int} : z ∈ roots → 1 ≤ z → z ≤ h.length → RcH h roots z
  | step {y z : Int} {o : ObjV} : RcH h roots y → h[(y - 1).toNat]? = some o → z ∈ o.refs → 1 ≤ z → z ≤ h.length → RcH h roots z
theorem RcH.rng {h : List ObjV} {roots : List Int} {z : Int} (r : RcH h roots z) : 1 ≤ z ∧ z ≤ h.length := by
  cases r with
  | root _ a b => exact ⟨a, b⟩
  | step _ _ _ a b => exact ⟨a, b⟩
def IsR (h : List ObjV) (roots l : List Int) : Prop := l.Pairwise (· < ·) ∧ ∀ z, z ∈ l ↔ (rightB h = true ∧ RcH h roots z)
theorem asc_eqH : ∀ {l1 l2 : List Int}, l1.Pairwise (· < ·) → l2.Pairwise (· < ·) → (∀ x, x ∈ l1 ↔ x ∈ l2) → l1 = l2
  | [], [], _, _, _ => rfl
  | [], y :: l2, _, _, h => absurd ((h y).2 List.mem_cons_self) (by simp)
  | x :: l1, [], _, _, h => absurd ((h x).1 List.mem_cons_self) (by simp)
  | x :: l1, y :: l2, h1, h2, h => by
    obtain ⟨p1, p2⟩ := List.pairwise_cons.1 h1
    obtain ⟨q1, q2⟩ := List.pairwise_cons.1 h2
    have hxy : x = y := by
      rcases List.mem_cons.1 ((h x).1 List.mem_cons_self) with e | e
      · exact e
      · rcases List.mem_cons.1 ((h y).2 List.mem_cons_self) with e' | e'
        · exact e'.symm
        · have := q1 x e
          have := p1 y e'
          omega
    subst hxy
    have : l1 = l2 := asc_eqH p2 q2 (fun z => by
      have hz := h z
      simp only [List.mem_cons] at hz
      constructor
      · intro hm
        rcases hz.1 (.inr hm) with e | e
        · have := p1 z hm; omega
        · exact e
      · intro hm
        rcases hz.2 (.inr hm) with e | e
        · have := q1 z hm; omega
        · exact e)
    rw [this]
theorem IsR.one {h : List ObjV} {roots l l' : List Int} (a : IsR h roots l) (b : IsR h roots l') : l = l' := asc_eqH a.1 b.1 fun x => by rw [a.2, b.2]
theorem IsR.no {h : List ObjV} {roots : List Int} (hr : rightB h = false) : IsR h roots [] := ⟨List.Pairwise.nil, fun z => by simp [hr]⟩

/-- One comes to more names: those of 'refs' that are there, and not yet among N. -/
def comeL (n : Nat) (N refs : List Int) : List Int := refs.foldl (fun (N : List Int) (z : Int) => if (1 ≤ z ∧ z ≤ n) ∧ z ∉ N then N ++ [z] else N) N
theorem comeL_spec (n : Nat) : ∀ (refs N : List Int), N.Nodup → (∀ z ∈ N, 1 ≤ z ∧ z ≤ n) → (comeL n N refs).Nodup ∧ (∀ z ∈ comeL n N refs, 1 ≤ z ∧ z ≤ n) ∧ (∃ new, comeL n N refs = N ++ new) ∧ (∀ z, z ∈ comeL n N refs ↔ z ∈ N ∨ (z ∈ refs ∧ 1 ≤ z ∧ z ≤ n))
  | [], N, h1, h2 => ⟨h1, h2, ⟨[], by simp [comeL]⟩, fun z => by simp [comeL]⟩
  | x :: refs, N, h1, h2 => by
    have e : comeL n N (x :: refs) = comeL n (if (1 ≤ x ∧ x ≤ n) ∧ x ∉ N then N ++ [x] else N) refs := rfl
    rw [e]
    by_cases hx : (1 ≤ x ∧ x ≤ n) ∧ x ∉ N
    · rw [if_pos hx]
      obtain ⟨a1, a2, ⟨new, a3⟩, a4⟩ := comeL_spec n refs (N ++ [x]) (List.nodup_append.2 ⟨h1, by simp, fun a ha b hb hab => by simp at hb; subst hb; subst hab; exact hx.2 ha⟩) (fun z hz => by
        rcases List.mem_append.1 hz with hz | hz
        · exact h2 z hz
        · simp at hz; subst hz; exact hx.1)
      refine ⟨a1, a2, ⟨x :: new, by rw [a3]; simp⟩, fun z => ?_⟩
      rw [a4]
      rw [List.mem_append, List.mem_singleton, List.mem_cons]
      constructor
      · rintro ((h | rfl) | ⟨h, h'⟩)
        · exact .inl h
        · exact .inr ⟨.inl rfl, hx.1⟩
        · exact .inr ⟨.inr h, h'⟩
      · rintro (h | ⟨rfl | h, h'⟩)
        · exact .inl (.inl h)
        · exact .inl (.inr rfl)
        · exact .inr ⟨h, h'⟩
    · rw [if_neg hx]
      obtain ⟨a1, a2, a3, a4⟩ := comeL_spec n refs N h1 h2
      refine ⟨a1, a2, a3, fun z => ?_⟩
      rw [a4]
      simp only [List.mem_cons]
      constructor
      · rintro (h | ⟨h, h'⟩)
        · exact .inl h
        · exact .inr ⟨.inr h, h'⟩
      · rintro (h | ⟨rfl | h, h'⟩)
        · exact .inl h
        · exact .inl (Classical.byContradiction fun hn => hx ⟨h', hn⟩)
        · exact .inr ⟨h, h'⟩
/-- Names under way: the first i of N were gone on from. -/
structure RB (h : List ObjV) (roots : List Int) (i : Nat) (N : List Int) : Prop where
  nod : N.Nodup
  rng : ∀ z ∈ N, 1 ≤ z ∧ z ≤ h.length
  snd : ∀ z ∈ N, RcH h roots z
  rts : ∀ z ∈ roots, 1 ≤ z → z ≤ h.length → z ∈ N
  fol : ∀ (j : Nat) (y : Int) (o : ObjV), j < i → N[j]? = some y → h[(y - 1).toNat]? = some o → ∀ z ∈ o.refs, 1 ≤ z → z ≤ h.length → z ∈ N
theorem RB.start (h : List ObjV) (roots : List Int) : RB h roots 0 (comeL h.length [] roots) := by
  obtain ⟨a1, a2, a3, a4⟩ := comeL_spec h.length roots [] (by simp) (by simp)
  exact ⟨a1, a2, fun z hz => by
    rcases (a4 z).1 hz with h | ⟨h1, h2, h3⟩
    · simp at h
    · exact .root h1 h2 h3, fun z hz h1 h2 => (a4 z).2 (.inr ⟨hz, h1, h2⟩), fun j y o hj => by omega⟩
theorem RB.step {h : List ObjV} {roots N : List Int} {i : Nat} {y : Int} {o : ObjV} (r : RB h roots i N) (hy : N[i]? = some y) (ho : h[(y - 1).toNat]? = some o) : RB h roots (i + 1) (comeL h.length N o.refs) := by
  obtain ⟨a1, a2, ⟨new, a3⟩, a4⟩ := comeL_spec h.length o.refs N r.nod r.rng
  have hyN := List.mem_of_getElem? hy
  refine ⟨a1, a2, fun z hz => ?_, fun z hz h1 h2 => (a4 z).2 (.inl (r.rts z hz h1 h2)), fun j x q hj hx hq z hz h1 h2 => ?_⟩
  · rcases (a4 z).1 hz with h | ⟨h1, h2, h3⟩
    · exact r.snd z h
    · exact .step (r.snd y hyN) ho h1 h2 h3
  · have hil : i < N.length := (List.getElem?_eq_some_iff.1 hy).1
    rw [a3, List.getElem?_append_left (by omega)] at hx
    rcases Nat.lt_succ_iff_lt_or_eq.1 hj with hj | rfl
    · exact (a4 z).2 (.inl (r.fol j x q hj hx hq z hz h1 h2))
    · rw [hy] at hx
      cases hx
      rw [ho] at hq
      cases hq
      exact (a4 z).2 (.inr ⟨hz, h1, h2⟩)
theorem RB.all {h : List ObjV} {roots N : List Int} {i : Nat} (r : RB h roots i N) (hi : N.length ≤ i) (z : Int) : z ∈ N ↔ RcH h roots z := by
  refine ⟨r.snd z, fun hz => ?_⟩
  induction hz with
  | root h1 h2 h3 => exact r.rts _ h1 h2 h3
  | @step y z o _ ho hz h1 h2 ih =>
    obtain ⟨j, hj⟩ := List.getElem?_of_mem ih
    exact r.fol j y o (by have := (List.getElem?_eq_some_iff.1 hj).1; omega) hj ho z hz h1 h2
end Go.Proofs.Ytnoknodijombpaa

/- Own lists of objects in memory: out of a heap, and as one; append onto one; Clone; one object put anew. No condition but on lengths. -/
set_option linter.unusedSimpArgs false
set_option linter.unusedVariables false
namespace Go.Proofs.Ytnoknodijombpaa
open Go.RowKit

/-- An object with the values of its two slices. -/
abbrev ObjT : Type := ObjV × Value × Value
def objC (p : ObjT) : List Value := [p.2.1, p.2.2]
def ObjOk (w : World) (S : Nat → Prop) (p : ObjT) : Prop := ObjI w S p.2.1 p.2.2 p.1
theorem ObjOk.keep {w w' : World} {S S' : Nat → Prop} {p : ObjT} (h : ObjOk w S p) (hk : Same' S w w') (hS : ∀ b, S b → S' b) : ObjOk w' S' p := ObjI.keep h hk hS
theorem ObjOk.one {w : World} {S : Nat → Prop} {l : List ObjT} (h : ∀ p ∈ l, ObjOk w S p) : ∀ u ∈ l.flatMap objC, u.oneCell' = true := by
  intro u hu
  obtain ⟨p, hp, hu⟩ := List.mem_flatMap.1 hu
  obtain ⟨⟨A, c, e, -⟩, ⟨A', c', e', -⟩⟩ := h p hp
  simp only [objC, List.mem_cons, List.mem_nil_iff, or_false] at hu
  rcases hu with rfl | rfl
  · rw [e]; rfl
  · rw [e']; rfl
theorem objC_len (l : List ObjT) : (l.flatMap objC).length = l.length * 2 := by
  induction l with
  | nil => rfl
  | cons x l ih => rw [List.flatMap_cons, List.length_append, ih, List.length_cons, show (objC x).length = 2 from rfl]; omega
/-- A heap's objects with their values, and its cells. -/
theorem ObjsV.cells {w : World} {S : Nat → Prop} {A : Option Addr} {n c : Nat} {xs : List ObjV} (h : ObjsV w S (.slice A n c) xs) :
    ∃ l : List ObjT, l.map (·.1) = xs ∧ (∀ p ∈ l, ObjOk w S p) ∧ (0 < xs.length → ∃ b o, A = some ⟨b, o, none⟩ ∧ S b ∧ ∀ (j : Nat) (u : Value), (l.flatMap objC)[j]? = some u → w.cell? ⟨b, o + j, none⟩ = some u) := by
  obtain ⟨A', c', e, h1, h2, h3⟩ := h
  injection e with eA _ _
  subst eA
  have key : ∀ ys : List ObjV, (∀ y ∈ ys, ∃ vr vi, ObjI w S vr vi y) → True := fun _ _ => trivial
  by_cases h0 : 0 < xs.length
  · obtain ⟨b, o, eA, hb, hc⟩ := h3 h0
    have build : ∀ (k : Nat), k ≤ xs.length → ∃ l : List ObjT, l.map (·.1) = xs.take k ∧ (∀ p ∈ l, ObjOk w S p) ∧ ∀ (j : Nat) (u : Value), (l.flatMap objC)[j]? = some u → w.cell? ⟨b, o + j, none⟩ = some u := by
      intro k
      induction k with
      | zero => exact fun _ => ⟨[], by simp, by simp, fun j u hu => by simp at hu⟩
      | succ k ih =>
        intro hk
        obtain ⟨l, e1, e2, e3⟩ := ih (by omega)
        obtain ⟨y, hy⟩ : ∃ y, xs[k]? = some y := ⟨_, List.getElem?_eq_getElem (by omega)⟩
        obtain ⟨vr, vi, ⟨c0, c1⟩, hi⟩ := hc k y hy
        have hl : l.length = k := by
          have := congrArg List.length e1
          simp at this
          omega
        refine ⟨l ++ [(y, vr, vi)], by rw [List.map_append, e1, List.take_add_one, hy]; rfl, fun p hp => ?_, fun j u hu => ?_⟩
        · rcases List.mem_append.1 hp with hp | hp
          · exact e2 p hp
          · simp at hp; subst hp; exact hi
        · rw [List.flatMap_append] at hu
          have hfl := objC_len l
          rw [hl] at hfl
          by_cases hj : j < k * 2
          · rw [List.getElem?_append_left (by omega)] at hu
            exact e3 j u hu
          · rw [List.getElem?_append_right (by omega), hfl] at hu
            have hu' : [vr, vi][j - k * 2]? = some u := hu
            have hj2 : j - k * 2 < 2 := (List.getElem?_eq_some_iff.1 hu').1
            by_cases hj0 : j - k * 2 = 0
            · rw [hj0] at hu'
              simp at hu'
              subst hu'
              rw [show o + j = o + k * 2 by omega]
              exact c0
            · have hj1 : j - k * 2 = 1 := by omega
              rw [hj1] at hu'
              simp at hu'
              subst hu'
              rw [show o + j = o + k * 2 + 1 by omega]
              exact c1
    obtain ⟨l, e1, e2, e3⟩ := build xs.length (Nat.le_refl _)
    rw [List.take_length] at e1
    exact ⟨l, e1, e2, fun _ => ⟨b, o, eA, hb, e3⟩⟩
  · have hx : xs = [] := List.eq_nil_of_length_eq_zero (by omega)
    subst hx
    exact ⟨[], rfl, by simp, fun h => absurd h (by simp)⟩
section
variable {w w' : World} {S : Nat → Prop} {base : Nat} {v : Value}
theorem OwC.below {β : Type} {c : β → List Value} {T : TypeId} {sz : Nat} {l : List β} (h : OwC c T sz w base v l) (hb : Below w.heap.size w w') : OwC c T sz w' base v l :=
  h.kept fun g hg => hb.block g (h.lt g hg).2
theorem OwC.lower {β : Type} {c : β → List Value} {T : TypeId} {sz : Nat} {l : List β} (h : OwC c T sz w base v l) {b : Nat} (hb : b ≤ base) : OwC c T sz w b v l := by
  refine ⟨h.1, ?_⟩
  rcases h.2 with h2 | ⟨g, cap, cur, hv, hg, r⟩
  · exact .inl h2
  · exact .inr ⟨g, cap, cur, hv, by omega, r⟩
end
theorem OwC.lit0 {β : Type} {c : β → List Value} {T : TypeId} {sz : Nat} (w : World) : OwC c T sz (w.alloc (.cells #[] T)) w.heap.size (.slice (some ⟨w.heap.size, 0, none⟩) 0 0) [] :=
  World.ownsRow_lit w #[] 0 (Nat.le_refl _) (by simp [maxLen]) (by simp)
set_option maxHeartbeats 1000000 in
set_option maxRecDepth 100000 in
/-- slices.Clone of ints. -/
theorem hclonei_any (v : Value) (xs : List Int) (w : World) (B : Nat) (hB : B ≤ w.heap.size) (hx : IntsV w (· < B) v xs) (hmax : xs.length ≤ 100000) :
    Calls Try.prog 52 #[v] w fun e w' => ∃ v', e = .returned v' ∧ Ow w' w.heap.size 3 .i64 v' xs ∧ Below w.heap.size w w' := by
  obtain ⟨A, c, rfl, hc, hm, hs, hR⟩ := hx.sl
  obtain ⟨i0, hi0, hz0, hz1, hz2⟩ := info_parts info_i64
  have HI := hide hi0
  obtain ⟨n, hn⟩ : ∃ n, xs.length = n := ⟨_, rfl⟩
  have HN := hide hn
  have HS := hide hs
  rw [hn] at hc hmax ⊢
  clear hx hn hs hi0
  rcases A with _ | ad
  · have hz : xs = [] := by
      rcases xs with _ | ⟨x, xs⟩
      · rfl
      · obtain ⟨b, o, h, -⟩ := HS.out (by simp)
        cases h
    have HZ := hide hz
    clear hz
    have q22 : ∀ (w : World) (a : Option Addr) (n c n' c' : Nat), (binOp .eql 27 (.slice a n c) (.slice none n' c')).run Try.prog w = .ok (.bool a.isNone) w := fun w a n c n' c' => Lib.run_eql_slice_nil w _ _ a n c n' c' Try.underlying27
    go_enter Try.func52, Try.ntmps52
    go_wp2
    go_ret
    exact ⟨_, rfl, by rw [HZ.out]; exact Ow.nil _ _ _ _, Below.refl _ _⟩
  · have ho0 : Ow (w.alloc (.cells #[] 3)) w.heap.size 3 .i64 (.slice (some ⟨w.heap.size, 0, none⟩) 0 0) [] := World.ownsRow_lit w #[] 0 (Nat.le_refl _) (by simp [maxLen]) (by simp)
    have HO := hide ho0
    clear ho0
    have q22 : ∀ (w : World) (a : Option Addr) (n c n' c' : Nat), (binOp .eql 27 (.slice a n c) (.slice none n' c')).run Try.prog w = .ok (.bool a.isNone) w := fun w a n c n' c' => Lib.run_eql_slice_nil w _ _ a n c n' c' Try.underlying27
    go_enter Try.func52, Try.ntmps52
    go_wp2_with (at_builtin; refine wpList_append_sl _ rfl (.tmp 5) (.tmp 6) _ rfl w.heap.size 3 .i64 i0 _ 8 Try.underlying27 HI.out hz0 hz1 hz2 rfl (by omega) (.slice (some ⟨w.heap.size, 0, none⟩) 0 0) [] rfl HO.out _ (some ad) n c xs rfl HN.out (HS.out.alloc hB _) (by simp; omega) (by simp) ?_; intro v1 w1 ho1 hb1)
    go_ret
    exact ⟨v1, rfl, by simpa using ho1, ((Below.refl _ _).alloc (Nat.le_refl _) _).trans hb1⟩
end Go.Proofs.Ytnoknodijombpaa
