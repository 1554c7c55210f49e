/- Layer 7, plain mathematics: how deep a block is; loops are one within the other or apart; what falls off when nothing turns back. Condition: the function is one of a program that may be. -/
import Derived.Test.YtlolgahaphmfoaaLA
set_option linter.unusedSimpArgs false
set_option linter.unusedVariables false
namespace Go.Proofs.Ytlolgahaphmfoaa
open Go.RowKit

/-- In how many of the first k loops, and of the next one's first j, each block is. -/
def dpT (hs : List Int) (B : Int → List Int) (k j b : Nat) : Nat := ((hs.take k).filter (fun h => decide ((b : Int) ∈ B h))).length + (match hs[k]? with | some h => if (b : Int) ∈ (B h).take j then 1 else 0 | none => 0)
theorem dpT_zero (hs : List Int) (B : Int → List Int) : dpT hs B 0 0 = fun _ => 0 := by
  funext b
  unfold dpT
  cases hs[0]? <;> simp
theorem dpT_step {hs : List Int} {B : Int → List Int} {k j x : Nat} {h : Int} (hn : (B h).Nodup) (hk : hs[k]? = some h) (hx : (B h)[j]? = some (x : Int)) : (fun z => if z = x then dpT hs B k j x + 1 else dpT hs B k j z) = dpT hs B k (j + 1) := by
  have hno := nodup_take hn hx
  funext z
  unfold dpT
  simp only [hk]
  rw [take_snocI hx]
  by_cases e : z = x
  · subst e
    rw [if_pos rfl, if_neg hno, if_pos (by simp)]
  · have : ¬ (z : Int) = x := by omega
    rw [if_neg e]
    simp [this]
theorem dpT_row {hs : List Int} {B : Int → List Int} {k j : Nat} {h : Int} (hk : hs[k]? = some h) (hj : (B h).length ≤ j) : dpT hs B k j = dpT hs B (k + 1) 0 := by
  funext z
  unfold dpT
  simp only [hk]
  rw [List.take_of_length_le hj, take_snocI hk, List.filter_append, List.length_append]
  have : (match hs[k + 1]? with | some h => if (z : Int) ∈ (B h).take 0 then 1 else 0 | none => 0) = 0 := by cases hs[k + 1]? <;> simp
  rw [this]
  by_cases e : (z : Int) ∈ B h <;> simp [e]
theorem dpT_le (hs : List Int) (B : Int → List Int) (k j b : Nat) : dpT hs B k j b ≤ k + 1 := by
  unfold dpT
  have h1 := List.length_filter_le (fun h => decide ((b : Int) ∈ B h)) (hs.take k)
  have h2 := List.length_take_le k hs
  have h3 : (match hs[k]? with | some h => if (b : Int) ∈ (B h).take j then 1 else 0 | none => 0) ≤ 1 := by
    cases hs[k]? with
    | none => simp
    | some r => simp only; split <;> simp
  omega
section
variable {f : FunV} {o : List Int} {p : Int → Int → Bool} {A : List Int} {B : Int → List Int} {hs : List Int}
theorem IsBody.nod {es : List (Int × Int)} {h : Int} {l : List Int} (b : IsBody f es h l) : l.Nodup := b.1.imp fun h e => by omega
theorem IsBody.nat {es : List (Int × Int)} {h : Int} {l : List Int} (b : IsBody f es h l) {y : Int} (hy : y ∈ l) : ∃ x : Nat, y = x ∧ x < f.blocks.length := by
  obtain ⟨x, e, hx, -⟩ := (b.2 y).1 hy
  exact ⟨x, e, hx⟩
theorem IsBody.len {es : List (Int × Int)} {h : Int} {l : List Int} (b : IsBody f es h l) : l.length ≤ f.blocks.length := nodup_len b.nod fun y hy => by
  obtain ⟨x, e, hx⟩ := b.nat hy
  omega
theorem IsHeads.nod {es : List (Int × Int)} {l : List Int} (b : IsHeads es l) : l.Nodup := b.1.imp fun h e => by omega
theorem heads_nat (hok : FlowOk f) {l : List Int} (b : IsHeads (backN f o p) l) {y : Int} (hy : y ∈ l) : ∃ x : Nat, y = x ∧ x < f.blocks.length := by
  obtain ⟨u, hu⟩ := (b.2 y).1 hy
  obtain ⟨-, x, -, e, -, hx, -⟩ := back_nat hok hu
  exact ⟨x, e, hx⟩
theorem heads_len (hok : FlowOk f) {l : List Int} (b : IsHeads (backN f o p) l) : l.length ≤ f.blocks.length := nodup_len b.nod fun y hy => by
  obtain ⟨x, e, hx⟩ := heads_nat hok b hy
  omega
/-- A head is in its own loop. -/
theorem head_own (hok : FlowOk f) {l L : List Int} (b : IsHeads (backN f o p) l) {h : Int} (hh : h ∈ l) (hB : IsBody f (backN f o p) h L) : h ∈ L := by
  obtain ⟨x, e, hx⟩ := heads_nat hok b hh
  obtain ⟨u, hu⟩ := (b.2 h).1 hh
  exact (hB.2 h).2 ⟨x, e, hx, u, hu, .inl e.symm⟩
theorem rz_to {z : Int} {a : Nat} {b : Int} (h : Rz f z a b) : b ≠ z := h.2 (fun y => y ≠ z) h.1 (fun _ _ _ _ h => h)
/-- A head dominates its loop. -/
theorem head_dom (hok : FlowOk f) (h1 : 1 ≤ f.blocks.length) (hA : AbvOf f A) (hp : ∀ a b, p a b = true ↔ domQ A a b) {h x : Nat} (hl : LoopP f (backN f o p) h x) : domQ A h x := by
  obtain ⟨u, hu, hx⟩ := hl
  have hd := back_dom hp hu
  obtain ⟨a, b, e1, e2, ha, hb, -⟩ := back_nat hok hu
  subst e1
  obtain ⟨r1, r2, hd⟩ := (domQ_ref hok h1 hA h a).1 hd
  rcases hx with hx | ⟨hR, hz⟩
  · obtain rfl : x = h := by omega
    exact (domQ_ref hok h1 hA x x).2 ⟨r1, r1, .inl rfl⟩
  · refine (domQ_ref hok h1 hA h x).2 ⟨r1, hR, .inr fun hw => ?_⟩
    have hne := rz_to hz
    rcases hd with e | hd
    · exact hne (by omega)
    · refine hd fun P h0 hs => ?_
      have := hz.2 (fun y => P y.toNat) (by simpa using hw P h0 hs) (fun k hk v hv hvh => by
        have hv0 := (hok.2.2 _ _ hv).1
        obtain ⟨w, rfl⟩ : ∃ w : Nat, v = w := ⟨v.toNat, by omega⟩
        simp only [Int.toNat_natCast] at hk ⊢
        exact hs k w hk hv (fun e => hvh (by omega)))
      simpa using this
/-- From a head there is a way to each block of its loop, within the loop. -/
theorem head_way (hok : FlowOk f) (h1 : 1 ≤ f.blocks.length) (hA : AbvOf f A) (hp : ∀ a b, p a b = true ↔ domQ A a b) {h x : Nat} (hl : LoopP f (backN f o p) h x) (P : Int → Prop) (hP : P h) (hs : ∀ y : Nat, P y → LoopP f (backN f o p) h y → ∀ v ∈ nxt f y, LoopP f (backN f o p) h v.toNat → P v) : P x := by
  have hd := (domQ_ref hok h1 hA h x).1 (head_dom hok h1 hA hp hl)
  obtain ⟨r1, r2, hd⟩ := hd
  by_cases e : x = h
  · subst e; exact hP
  have hnw : ¬ Rw f h x := hd.resolve_left (fun h => e h.symm)
  obtain ⟨u, hu, hx⟩ := hl
  have hzx := (hx.resolve_left (by omega)).2
  -- every reached block leads to x without h only if it is in the loop, and P
  have hlead : ∀ y : Nat, Rch f y → Rz f h y x → LoopP f (backN f o p) h y := fun y hy hz => ⟨u, hu, .inr ⟨hy, hz.1, fun Q hQ hsQ => hzx.2 Q (hz.2 Q hQ hsQ) hsQ⟩⟩
  have hself : LoopP f (backN f o p) h h := ⟨u, hu, .inl rfl⟩
  -- blocks from which x is met without h, and which are not reached within the loop, are not met at all
  apply Classical.byContradiction
  intro hno
  refine hnw fun Q h0 hsQ => ?_
  -- walk from 0: carry 'if x can be met from here without h, then P fails to hold here'
  obtain ⟨o', ho', hxo⟩ := r2
  have key : ∀ y : Nat, Rch f y → (y = h ∨ Q y ∨ P y ∨ ¬ Rz f h y x) := by
    intro y hy
    obtain ⟨o2, ho2, hyo⟩ := hy
    have g := gr_of hok h1 ho2
    have : ∀ (n y : Nat), tnO o2 y ≤ n → rO o2 y → (y = h ∨ Q y ∨ P y ∨ ¬ Rz f h y x) := by
      intro n
      induction n with
      | zero =>
        intro y hy hR
        have : y = 0 := g.inj _ _ hR g.z (by rw [g.tz]; omega)
        subst this
        by_cases e0 : h = 0
        · exact .inl e0.symm
        · exact .inr (.inl (h0 e0))
      | succ n ih =>
        intro y hy hR
        by_cases hy0 : y = 0
        · subst hy0
          by_cases e0 : h = 0
          · exact .inl e0.symm
          · exact .inr (.inl (h0 e0))
        · by_cases hyh : y = h
          · exact .inl hyh
          by_cases hz : Rz f h y x
          case neg => exact .inr (.inr (.inr hz))
          obtain ⟨q, hq, hqR, hql⟩ := g.fw y hR hy0
          obtain ⟨a, rfl, ha, hn⟩ := prev_nat hq
          simp only [Int.toNat_natCast] at hqR hql
          have hly := hlead y ⟨o2, ho2, hR⟩ hz
          rcases ih a (by omega) hqR with e | e | e | e
          · subst e
            exact .inr (.inr (.inl (hs a hP hself y hn (by simpa using hly))))
          · exact .inr (.inl (hsQ a y e hn hyh))
          · by_cases eah : a = h
            · subst eah
              exact .inr (.inr (.inl (hs a hP hself y hn (by simpa using hly))))
            · have hza : Rz f h a x := ⟨by omega, fun R hR hsR => hz.2 R (hsR a hR y hn (by omega)) hsR⟩
              exact .inr (.inr (.inl (hs a e (hlead a ⟨o2, ho2, hqR⟩ hza) y hn (by simpa using hly))))
          · by_cases eah : a = h
            · subst eah
              exact .inr (.inr (.inl (hs a hP hself y hn (by simpa using hly))))
            · exact absurd ⟨by omega, fun R hR hsR => hz.2 R (hsR a hR y hn (by omega)) hsR⟩ e
    exact this _ y (Nat.le_refl _) hyo
  rcases key x ⟨o', ho', hxo⟩ with h | h | h | h
  · exact absurd h e
  · exact h
  · exact absurd h hno
  · exact absurd ⟨by omega, fun R hR _ => hR⟩ h
/-- Two loops that have a block in common: one is within the other. -/
theorem loops_nest (hok : FlowOk f) (h1 : 1 ≤ f.blocks.length) (hA : AbvOf f A) (hp : ∀ a b, p a b = true ↔ domQ A a b) {g h b : Nat} (hne : g ≠ h) (hg : LoopP f (backN f o p) g b) (hh : LoopP f (backN f o p) h b) (hgh : domQ A g h) : ∀ x, LoopP f (backN f o p) h x → LoopP f (backN f o p) g x := by
  intro x hx
  -- the loop of h doesn't have g
  have hng : ¬ LoopP f (backN f o p) h g := fun hl => by
    have hd := head_dom hok h1 hA hp hl
    obtain ⟨tn, ht⟩ := hA.tr
    have hl1 : 1 ≤ A.length := by rw [hA.len]; exact h1
    obtain ⟨a1, a2, a3⟩ := hgh
    obtain ⟨b1, b2, b3⟩ := hd
    simp only [Int.toNat_natCast] at a3 b3
    have ig : inA A g := by simpa using (hasA_iff hl1 (by omega)).1 a1
    have ih : inA A h := by simpa using (hasA_iff hl1 (by omega)).1 a2
    exact hne (a3.eq ht ih (b3.le ht ig).2)
  by_cases exg : x = g
  · subst exg; exact absurd hx hng
  obtain ⟨ug, hug, hgb⟩ := hg
  have hbg : (b : Int) ≠ g := fun e => hng (by
    obtain rfl : b = g := by omega
    exact hh)
  obtain ⟨hbR, hbz⟩ := hgb.resolve_left hbg
  have hRx : Rch f x := ((domQ_ref hok h1 hA h x).1 (head_dom hok h1 hA hp hx)).2.1
  refine ⟨ug, hug, .inr ⟨hRx, by omega, fun P hP hs => ?_⟩⟩
  -- from x to h within the loop of h, then from h to b, then on to ug
  have hPh : P h := by
    obtain ⟨uh, huh, hxl⟩ := hx
    rcases hxl with e | ⟨-, hz⟩
    · rw [← e]; exact hP
    · have hnu := rz_to hz
      obtain ⟨a, c, rfl, e2, ha, hc, -, -, hn⟩ := back_nat hok huh
      have hPa : P a := by
        have hq := hz.2 (fun y => Rch f y.toNat ∧ y ≠ (h : Int) ∧ (P y ∨ ¬ Rz f h y.toNat (a : Int))) ⟨by simpa using hRx, hz.1, .inl hP⟩ (fun y hy v hv hvh => by
          obtain ⟨q1, q2, q3⟩ := hy
          simp only [Int.toNat_natCast] at q1 q3
          have hvR := rch_next hok h1 q1 hv
          refine ⟨hvR, hvh, ?_⟩
          by_cases hzv : Rz f h v.toNat (a : Int)
          case neg => exact .inr hzv
          have hv0 := (hok.2.2 _ _ hv).1
          have ev : ((v.toNat : Nat) : Int) = v := by omega
          have hzy : Rz f h y (a : Int) := ⟨q2, fun R hR hsR => hzv.2 R (by rw [ev]; exact hsR y hR v hv hvh) hsR⟩
          have hPy := q3.resolve_right (fun hn => hn hzy)
          refine .inl (hs y hPy v hv (fun e => hng ?_))
          have : LoopP f (backN f o p) h v.toNat := ⟨_, huh, .inr ⟨hvR, hzv⟩⟩
          rw [e] at this
          simpa using this)
        exact hq.2.2.resolve_right (fun hno => hno ⟨by simpa using hnu, fun R hR _ => by simpa using hR⟩)
      exact hs a hPa h (by rw [e2]; rw [e2] at hn; exact hn) (fun e => hne (by omega))
  have hPb : P b := head_way hok h1 hA hp hh P hPh (fun y hy hly v hv hlv => hs y hy v hv (fun e => hng (by rw [e] at hlv; simpa using hlv)))
  exact hbz.2 P hPb hs
/-- How many blocks of X, of the first k, and of the next one's first j hits, are in Y. -/
def btT (X Y : List Int) (k j : Nat) : Nat := ((X.take k).filter (fun x => decide (x ∈ Y))).length + (match X[k]? with | some x => if x ∈ Y.take j then 1 else 0 | none => 0)
theorem btT_zero (X Y : List Int) : btT X Y 0 0 = 0 := by
  unfold btT
  cases X[0]? <;> simp
theorem btT_yes {X Y : List Int} {k j : Nat} {x : Int} (hn : Y.Nodup) (hk : X[k]? = some x) (hy : Y[j]? = some x) : btT X Y k j + 1 = btT X Y k (j + 1) := by
  have hno := nodup_take hn hy
  unfold btT
  simp only [hk]
  rw [take_snocI hy, if_neg hno, if_pos (by simp)]
theorem btT_no {X Y : List Int} {k j : Nat} {x y : Int} (hk : X[k]? = some x) (hy : Y[j]? = some y) (hne : ¬ x = y) : btT X Y k j = btT X Y k (j + 1) := by
  unfold btT
  simp only [hk]
  rw [take_snocI hy]
  simp [hne]
theorem btT_row {X Y : List Int} {k j : Nat} {x : Int} (hk : X[k]? = some x) (hj : Y.length ≤ j) : btT X Y k j = btT X Y (k + 1) 0 := by
  unfold btT
  simp only [hk]
  rw [List.take_of_length_le hj, take_snocI hk, List.filter_append, List.length_append]
  have : (match X[k + 1]? with | some x => if x ∈ Y.take 0 then 1 else 0 | none => 0) = 0 := by cases X[k + 1]? <;> simp
  rw [this]
  by_cases e : x ∈ Y <;> simp [e]
theorem btT_le (X Y : List Int) (k j : Nat) : btT X Y k j ≤ k + 1 := by
  unfold btT
  have h1 := List.length_filter_le (fun x => decide (x ∈ Y)) (X.take k)
  have h2 := List.length_take_le k X
  have h3 : (match X[k]? with | some x => if x ∈ Y.take j then 1 else 0 | none => 0) ≤ 1 := by
    cases X[k]? with
    | none => simp
    | some r => simp only; split <;> simp
  omega
theorem btT_end {X Y : List Int} {k : Nat} (hk : X.length ≤ k) : btT X Y k 0 = (X.filter (fun x => decide (x ∈ Y))).length := by
  unfold btT
  rw [List.take_of_length_le hk, List.getElem?_eq_none hk]
  simp
theorem nest_end (hok : FlowOk f) (h1 : 1 ≤ f.blocks.length) (hA : AbvOf f A) (hp : ∀ a b, p a b = true ↔ domQ A a b) {g h : Int} (hne : g ≠ h) {X Y : List Int} (hX : IsBody f (backN f o p) g X) (hY : IsBody f (backN f o p) h Y) {k : Nat} (hk : X.length ≤ k) (h0 : 0 < btT X Y k 0) : btT X Y k 0 = X.length ∨ btT X Y k 0 = Y.length := by
  rw [btT_end hk] at h0 ⊢
  obtain ⟨z, hz⟩ := List.exists_mem_of_length_pos h0
  simp only [List.mem_filter, decide_eq_true_eq] at hz
  obtain ⟨b, rfl, hb, hgb⟩ := (hX.2 z).1 hz.1
  obtain ⟨b', e, hb', hhb⟩ := (hY.2 _).1 hz.2
  obtain rfl : b = b' := by omega
  obtain ⟨ug, hug, -⟩ := hgb
  obtain ⟨uh, huh, -⟩ := hhb
  obtain ⟨-, g', -, rfl, -⟩ := back_nat hok hug
  obtain ⟨-, h', -, rfl, -⟩ := back_nat hok huh
  have hgb := ((hX.2 b).1 hz.1)
  obtain ⟨b1, e1, -, hgb⟩ := hgb
  obtain rfl : b = b1 := by omega
  obtain ⟨b2, e2, -, hhb⟩ := ((hY.2 b).1 hz.2)
  obtain rfl : b = b2 := by omega
  have dg := head_dom hok h1 hA hp hgb
  have dh := head_dom hok h1 hA hp hhb
  obtain ⟨tn, ht⟩ := hA.tr
  have hl1 : 1 ≤ A.length := by rw [hA.len]; exact h1
  have hg0 := dg.1
  have hh0 := dh.1
  have hb0 := dg.2.1
  have hga := dg.2.2
  have hha := dh.2.2
  simp only [Int.toNat_natCast] at hga hha
  have ib : inA A b := by simpa using (hasA_iff hl1 (by omega)).1 hb0
  rcases Nat.le_total (tn g') (tn h') with hle | hle
  · have hgh : domQ A g' h' := ⟨hg0, hh0, by simpa using hga.lin ht hha ib hle⟩
    have hsub := loops_nest hok h1 hA hp (by omega) hgb hhb hgh
    right
    have : X.filter (fun x => decide (x ∈ Y)) = Y := asc_eq' (hX.1.filter _) hY.1 fun y => by
      simp only [List.mem_filter, decide_eq_true_eq]
      constructor
      · exact fun h => h.2
      · intro hy
        obtain ⟨x, rfl, hx, hl⟩ := (hY.2 y).1 hy
        exact ⟨(hX.2 x).2 ⟨x, rfl, hx, hsub x hl⟩, hy⟩
    rw [this]
  · have hhg : domQ A h' g' := ⟨hh0, hg0, by simpa using hha.lin ht hga ib hle⟩
    have hsub := loops_nest hok h1 hA hp (by omega) hhb hgb hhg
    left
    rw [List.filter_eq_self.2 (fun y hy => by
      obtain ⟨x, rfl, hx, hl⟩ := (hX.2 y).1 hy
      exact decide_eq_true ((hY.2 x).2 ⟨x, rfl, hx, hsub x hl⟩))]
/-- What is left of a walk that doesn't turn back falls off, turn by turn. -/
structure FallI (f : FunV) (o : List Int) (t b : Nat) (m : List Bool) : Prop where
  len : m.length = f.blocks.length
  fal : ∀ c : Nat, (c : Int) ∈ o → ((o.length : Int) - placeN o c < t ∨ (c < b ∧ (o.length : Int) - placeN o c ≤ t)) → metB m c = true
theorem FallI.start (f : FunV) (o : List Int) : FallI f o 0 0 (List.replicate f.blocks.length false) := by
  refine ⟨by simp, fun c hc h => ?_⟩
  have := (placeN_le (l := o) (y := (c : Int))).2
  omega
theorem FallI.put {t b : Nat} {m : List Bool} (h : FallI f o t b m) (hb : b < f.blocks.length) {v : Bool} (hv : metB m b = true → v = true) (hf : (b : Int) ∈ o → (o.length : Int) - placeN o b ≤ t → v = true) : FallI f o t (b + 1) (m.set b v) := by
  refine ⟨by rw [List.length_set]; exact h.len, fun c hc hd => ?_⟩
  have hl := h.len
  by_cases e : c = b
  · subst e
    have : v = true := by
      rcases hd with hd | ⟨-, hd⟩
      · exact hv (h.fal c hc (.inl hd))
      · exact hf hc hd
    subst this
    unfold metB
    simp only [Int.toNat_natCast]
    rw [List.getD_eq_getElem?_getD, List.getElem?_set_self (by omega)]
    rfl
  · have := h.fal c hc (by omega)
    unfold metB at this ⊢
    simp only [Int.toNat_natCast] at this ⊢
    rw [List.getD_eq_getElem?_getD, List.getElem?_set_ne (fun e2 => e e2.symm), ← List.getD_eq_getElem?_getD]
    exact this
theorem FallI.turn {t b : Nat} {m : List Bool} (hr : ∀ y ∈ o, 0 ≤ y ∧ y < (f.blocks.length : Int)) (h : FallI f o t b m) (hb : f.blocks.length ≤ b) : FallI f o (t + 1) 0 m :=
  ⟨h.len, fun c hc hd => h.fal c hc (by have := hr _ hc; omega)⟩
theorem FallI.all {t : Nat} {m : List Bool} (h : FallI f o t 0 m) (ht : o.length ≤ t) {c : Nat} (hc : (c : Int) ∈ o) : metB m c = true := h.fal c hc (.inl (by have := placeN_pos hc; omega))
/-- An edge of a reached block that doesn't turn back leads further on. -/
theorem edge_on (hro : ReachOk f o) {e : Int × Int} (he : e ∈ edgesN f) (hb : e.1 ∈ o) (hn : e ∉ turnsN f o) : e.2 ∈ o ∧ placeN o e.1 < placeN o e.2 := by
  obtain ⟨x, v⟩ := e
  obtain ⟨a, rfl, ha, hv⟩ := edges_nat' he
  have hvo : v ∈ o := hro.fwd a hb v (by simpa using hv)
  refine ⟨hvo, Classical.byContradiction fun hc => hn (turns_mem.2 ⟨he, placeN_pos hvo, by simp only at *; omega⟩)⟩
end
end Go.Proofs.Ytlolgahaphmfoaa
