/- Layer 12, the mathematics of KeepFresh: where no use fails, what is live is set, and fresh if derived, and the base of what is fresh is set. No condition. -/
import Derived.Test.YtehboglielnjbaaGreatDoorPlEL
set_option linter.unusedSimpArgs false
set_option linter.unusedVariables false
namespace Go.Proofs.YtehboglielnjbaaGreatDoor
open Go.RowKit

/-- No use fails: at each reached block's places, what an instruction uses is set, and fresh if derived. -/
def NoFail (f : FunV) : Prop := ∀ (b : Nat) (l : List InsV) (j : Nat) (x : InsV), f.blocks[b]? = some l → Pth f 0 (b : Int) → l[j]? = some x → ∀ v : Nat, (v : Int) ∈ usesL x → kOut f (l.take j) (kAt f b) false v ∧ (f.kinds[v]? = some 2 → kOut f (l.take j) (kAt f b) true v)
/-- Holds of v: it is set, and fresh if derived. -/
def okV (f : FunV) (P : Bool → Nat → Prop) (v : Nat) : Prop := P false v ∧ (f.kinds[v]? = some 2 → P true v)
theorem kS_back {f : FunV} {x : InsV} {P : Bool → Nat → Prop} {v : Nat} (h : okV f (kS f x P) v) (hn : ¬ (hasB4 x.op 68 = true ∧ x.d = (v : Int))) : okV f P v := by
  have hd : ¬ dSet f x v := fun h => hn ⟨h.1, h.2.1⟩
  refine ⟨?_, fun hk => ?_⟩
  · have h1 := h.1
    unfold kS at h1
    rw [if_pos rfl] at h1
    exact h1.resolve_right hd
  · have h1 := h.2 hk
    unfold kS at h1
    rw [if_neg (by simp)] at h1
    rcases h1 with h1 | h1
    · exact absurd h1.1 hd
    · exact h1.2.1
theorem kOut_back {f : FunV} {l : List InsV} {v : Nat} (hn : ¬ setB l v) {P : Bool → Nat → Prop} (h : okV f (kOut f l P) v) : okV f P v := by
  induction l generalizing P with
  | nil => exact h
  | cons x l ih =>
    refine kS_back (x := x) (ih (fun ⟨y, hy, hs⟩ => hn ⟨y, List.mem_cons_of_mem _ hy, hs⟩) (P := kS f x P) h) fun hs => hn ⟨x, List.mem_cons_self, hs⟩
/-- In a block: what is live ahead of a place is set there. -/
theorem live_in {f : FunV} {l : List InsV} {P : Bool → Nat → Prop} {t : List Nat} (ht : SetOk t) (hu : ∀ (j : Nat) (x : InsV), l[j]? = some x → ∀ v : Nat, (v : Int) ∈ usesL x → okV f (kOut f (l.take j) P) v)
    (hv : ∀ v : Nat, hasB t (v : Int) = true → okV f (kOut f l P) v) : ∀ (n i : Nat), l.length - i = n → i ≤ l.length → SetOk (thrS (l.drop i) t) ∧ ∀ v : Nat, hasB (thrS (l.drop i) t) (v : Int) = true → okV f (kOut f (l.take i) P) v := by
  intro n
  induction n with
  | zero =>
    intro i hi hl
    have e : i = l.length := by omega
    rw [e, List.drop_length, List.take_length]
    exact ⟨ht, hv⟩
  | succ n ih =>
    intro i hi hl
    obtain ⟨h1, h2⟩ := ih (i + 1) (by omega) (by omega)
    have hil : i < l.length := by omega
    have e : l.drop i = l[i] :: l.drop (i + 1) := List.drop_eq_getElem_cons hil
    have et : l.take (i + 1) = l.take i ++ [l[i]] := by rw [List.take_add_one, List.getElem?_eq_getElem hil]; rfl
    rw [e]
    have e2 : thrS (l[i] :: l.drop (i + 1)) t = insS l[i] (thrS (l.drop (i + 1)) t) := rfl
    rw [e2]
    refine ⟨insS_ok h1, fun v hv => ?_⟩
    rcases (insS_has h1.2 v).1 hv with ⟨hn, h3⟩ | ⟨h3, -⟩
    · have h4 := h2 v h3
      rw [et, kOut_snoc] at h4
      exact kS_back h4 hn
    · exact hu i l[i] (List.getElem?_eq_getElem hil) v h3
theorem okV_mono {f : FunV} {P Q : Bool → Nat → Prop} (h : leS P Q) {v : Nat} (hv : okV f P v) : okV f Q v := ⟨h _ _ hv.1, fun hk => h _ _ (hv.2 hk)⟩
theorem kBlk_code {f : FunV} {b : Nat} {l : List InsV} (hl : f.blocks[b]? = some l) (P : Bool → Nat → Prop) : kBlk f b P = kOut f l P := by unfold kBlk; rw [hl]
theorem codeOf_at {f : FunV} {b : Nat} {l : List InsV} (hl : f.blocks[b]? = some l) : codeOf f b = l := by unfold codeOf; rw [hl]; rfl
/-- What is live at a reached block's beginning is set there, and fresh if derived. -/
theorem live_at {f : FunV} (hok : FlowOk f) (hnf : NoFail f) {b v : Nat} (h : Lv f b v) : Pth f 0 (b : Int) → okV f (kAt f b) v := by
  refine h (fun b => Pth f 0 (b : Int) → okV f (kAt f b) v) (fun b hb h hp => ?_) (fun b c hb hc he ih hs hp => ?_)
  · obtain ⟨l, hl⟩ : ∃ l, f.blocks[b]? = some l := ⟨_, List.getElem?_eq_getElem hb⟩
    rw [codeOf_at hl] at h
    have := (live_in (f := f) (l := l) (P := kAt f b) (t := []) ⟨by simp, fun x hx => by cases hx⟩ (fun j x hx v hv => hnf b l j x hl hp hx v hv) (fun v hv => by simp [hasB] at hv) l.length 0 (by omega) (by omega)).2 v (by simpa using h)
    simpa [kOut] using this
  · obtain ⟨l, hl⟩ : ∃ l, f.blocks[b]? = some l := ⟨_, List.getElem?_eq_getElem hb⟩
    rw [codeOf_at hl] at hs
    have h1 := ih (hp.trans (Pth.step (by omega) (by rwa [Int.toNat_natCast])))
    have h2 := okV_mono ((kAt_sol f).edge b c hp he) h1
    rw [kBlk_code hl] at h2
    exact kOut_back hs h2
/-- What is live ahead of a place of a reached block is set there, and fresh if derived. -/
theorem live_place {f : FunV} (hok : FlowOk f) (hnf : NoFail f) {b i : Nat} {l : List InsV} (hl : f.blocks[b]? = some l) (hi : i < l.length) (hp : Pth f 0 (b : Int)) {s : List Nat} (hs : LvQ f 0 (b : Int) (i : Int) s) {v : Nat} (hv : hasB s (v : Int) = true) : okV f (kOut f (l.take i) (kAt f b)) v := by
  have hh : hereB f (b : Int) (i : Int) = true := by unfold hereB; rw [sizeN_nat hl]; simp; omega
  unfold LvQ at hs
  rw [if_pos hh] at hs
  obtain ⟨t, ht, rfl⟩ := hs
  simp only [Int.toNat_natCast, Nat.add_zero, codeOf_at hl] at ht hv
  have htok := EndS.ok hok ht
  refine (live_in htok (fun j x hx u hu => hnf b l j x hl hp hx u hu) (fun u hu => ?_) (l.length - i) i rfl (by omega)).2 v hv
  obtain ⟨σ, hσ, rfl⟩ := ht
  obtain ⟨q, hq, hqu⟩ := (hasB_join _ u).1 hu
  obtain ⟨n, hn, rfl⟩ := List.mem_map.1 hq
  have hr := hok.2.2 b n hn
  obtain ⟨c, rfl⟩ : ∃ c : Nat, n = (c : Int) := ⟨n.toNat, by omega⟩
  rw [Int.toNat_natCast] at hqu
  have hc : c < f.blocks.length := by omega
  have h1 := live_at hok hnf (((hσ c hc).has u).1 hqu) (hp.trans (Pth.step (by omega) (by rwa [Int.toNat_natCast])))
  have h2 := okV_mono ((kAt_sol f).edge b c hp hn) h1
  rw [kBlk_code hl] at h2
  exact h2
/-- The base of what is fresh is set: of a state P, told by Q. -/
def bsP (f : FunV) (P Q : Bool → Nat → Prop) : Prop := ∀ u b : Nat, P true u → u < f.base.length → f.base[u]? = some (b : Int) → Q false b
theorem bs_step {p : List FunV} {f : FunV} {x : InsV} {P Q : Bool → Nat → Prop} (hres : ∀ g ∈ p, g.result = 0 ∨ g.result = 1) (hop : 1 ≤ x.op ∧ x.op ≤ 23) (hfit : fitB p f x = true) (h : bsP f P Q) (hle : leS P Q) (h2l : f.base.length = f.kinds.length) (hu : ∀ v : Nat, (v : Int) ∈ usesL x → okV f P v) : bsP f (kS f x P) (kS f x Q) := by
  intro u b hk hul hb
  have up : ∀ m, Q false m → kS f x Q false m := fun m hm => by unfold kS; rw [if_pos rfl]; exact .inl hm
  unfold kS at hk
  rw [if_neg (by simp)] at hk
  rcases hk with ⟨hd, hk2, h16⟩ | ⟨-, hP, -⟩
  · have hbn : baseN f (u : Int) = (b : Int) := by
      rw [baseN_at hul, List.getD_eq_getElem?_getD, hb]
      rfl
    rcases der_set hres hop hfit hd.1 hd.2.1 hk2 with ⟨h15, ha⟩ | ⟨h16', ha, hka⟩
    · refine up b (hle _ _ (hu b ?_).1)
      unfold usesL
      rw [h15, if_pos (by decide), ← ha, hbn]
      simp
    · obtain ⟨a, haa, hPa⟩ := h16 h16'
      obtain ⟨a', haa', hak⟩ := isK_iff.1 hka
      obtain rfl : a = a' := by omega
      refine up b (h a b hPa ?_ ?_)
      · rw [h2l]
        exact (List.getElem?_eq_some_iff.1 hak).1
      · have hal : a < f.base.length := by rw [h2l]; exact (List.getElem?_eq_some_iff.1 hak).1
        rw [haa, baseN_at hal, List.getD_eq_getElem?_getD, List.getElem?_eq_getElem hal] at ha
        rw [List.getElem?_eq_getElem hal]
        simp only [Option.getD_some] at ha
        rw [← ha, hbn]
  · exact up b (h u b hP hul hb)
theorem kOut_take {f : FunV} {l : List InsV} {i : Nat} (hi : i < l.length) (P : Bool → Nat → Prop) : kOut f (l.take (i + 1)) P = kS f l[i] (kOut f (l.take i) P) := by
  rw [List.take_add_one, List.getElem?_eq_getElem hi]
  exact kOut_snoc _ _ _
/-- Through the code of a reached block. -/
theorem bs_code {p : List FunV} {f : FunV} (ha : AOk p f) (hnf : NoFail f) {b : Nat} {l : List InsV} (hl : f.blocks[b]? = some l) (hp : Pth f 0 (b : Int)) {Q : Bool → Nat → Prop} (h : bsP f (kAt f b) Q) (hle : leS (kAt f b) Q) : ∀ i, i ≤ l.length → bsP f (kOut f (l.take i) (kAt f b)) (kOut f (l.take i) Q) := by
  intro i
  induction i with
  | zero => intro _; simpa [kOut] using h
  | succ i ih =>
    intro hi
    have hil : i < l.length := by omega
    have hlm := List.mem_of_getElem? hl
    have hxm : l[i] ∈ l := List.getElem_mem hil
    rw [kOut_take hil, kOut_take hil]
    exact bs_step ha.res (op_range (may_parts (ha.ok.may l hlm _ hxm)).1) (ha.fit l hlm _ hxm) (ih (by omega)) (kOut_mono _ hle) ha.ok.bl (fun v hv => hnf b l i l[i] hl hp (List.getElem?_eq_getElem hil) v hv)
/-- At a reached block's beginning the base of what is fresh is set. -/
theorem bs_at {p : List FunV} {f : FunV} (ha : AOk p f) (hnf : NoFail f) : ∀ b : Nat, Pth f 0 (b : Int) → bsP f (kAt f b) (kAt f b) := by
  have hs : Sol f (fun b k m => kAt f b k m ∨ (k = false ∧ Pth f 0 (b : Int) ∧ ∃ u, kAt f b true u ∧ u < f.base.length ∧ f.base[u]? = some (m : Int))) := by
    constructor
    · rintro k m (h | ⟨rfl, -, u, h, -⟩)
      · exact (kAt_sol f).zero k m h
      · have := (kAt_sol f).zero true u h
        cases this.1
    · intro b c hp hc k m h
      have hbl : b < f.blocks.length := by
        obtain ⟨n, hn, hlt⟩ := Pth.nat ha.ok.flow (a := 0) hp (by have := ha.ok.one; omega)
        omega
      obtain ⟨l, hl⟩ : ∃ l, f.blocks[b]? = some l := ⟨_, List.getElem?_eq_getElem hbl⟩
      have hle : leS (kAt f b) (fun k m => kAt f b k m ∨ (k = false ∧ Pth f 0 (b : Int) ∧ ∃ u, kAt f b true u ∧ u < f.base.length ∧ f.base[u]? = some (m : Int))) := fun k m h => .inl h
      rcases h with h | ⟨rfl, -, u, h, hul, hb⟩
      · exact kBlk_mono b hle k m ((kAt_sol f).edge b c hp hc k m h)
      · have h1 := (kAt_sol f).edge b c hp hc true u h
        rw [kBlk_code hl] at h1 ⊢
        have h2 := bs_code ha hnf hl hp (Q := fun k m => kAt f b k m ∨ (k = false ∧ Pth f 0 (b : Int) ∧ ∃ u, kAt f b true u ∧ u < f.base.length ∧ f.base[u]? = some (m : Int))) (fun u m hu hul hb => .inr ⟨rfl, hp, u, hu, hul, hb⟩) hle l.length (Nat.le_refl _)
        rw [List.take_length] at h2
        exact h2 u m h1 hul hb
  intro b hp u m hu hul hb
  exact hs.le b false m (.inr ⟨rfl, hp, u, hu, hul, hb⟩)
/-- At a place of a reached block. -/
theorem bs_place {p : List FunV} {f : FunV} (ha : AOk p f) (hnf : NoFail f) {b : Nat} {l : List InsV} (hl : f.blocks[b]? = some l) (hp : Pth f 0 (b : Int)) (i : Nat) (hi : i ≤ l.length) : bsP f (kOut f (l.take i) (kAt f b)) (kOut f (l.take i) (kAt f b)) :=
  bs_code ha hnf hl hp (bs_at ha hnf b hp) (leS.refl _) i hi
open Classical in
theorem kAt_ex {f : FunV} (h : KOk f) {b : Nat} (hp : Pth f 0 (b : Int)) : ∃ s, KAt f b s := by
  have hin := Sol.inK h.flow (kAt_sol f) hp
  have hk48 := h.kinds
  have key : ∀ (k : Bool) (m : Nat), hasB (ofL (((List.range f.kinds.length).filter (fun m => decide (kAt f b k m))).map (fun m : Nat => (m : Int)))) (m : Int) = true ↔ kAt f b k m := by
    intro k m
    rw [hasB_ofL, decide_eq_true_eq]
    constructor
    · rintro ⟨h1, -⟩
      obtain ⟨m', h2, h3⟩ := List.mem_map.1 h1
      obtain rfl : m' = m := by omega
      exact of_decide_eq_true (List.mem_filter.1 h2).2
    · intro h1
      have := hin.1 k m h1
      exact ⟨List.mem_map.2 ⟨m, List.mem_filter.2 ⟨List.mem_range.2 this, decide_eq_true h1⟩, rfl⟩, by omega⟩
  have hsem : ∀ k m, semK (ofL (((List.range f.kinds.length).filter (fun m => decide (kAt f b false m))).map (fun m : Nat => (m : Int))), ofL (((List.range f.kinds.length).filter (fun m => decide (kAt f b true m))).map (fun m : Nat => (m : Int)))) k m ↔ kAt f b k m := by
    intro k m
    cases k
    · rw [semK_f]; exact key false m
    · rw [semK_t]; exact key true m
  exact ⟨_, .inl ⟨hp, ⟨ofL_tidy _, ofL_tidy _, (ofL_ok _).2, (ofL_ok _).2, (ofL_ok _).1, (ofL_ok _).1, fun k m hm => hin.1 k m ((hsem k m).1 hm)⟩, hsem⟩⟩
/-- What the program's sets tell at a place of a reached block. -/
theorem thr_sem {f : FunV} (h : KOk f) {b : Nat} {l : List InsV} (hl : f.blocks[b]? = some l) (hp : Pth f 0 (b : Int)) {s : KSt} (hs : KAt f b s) (i : Nat) : GoodK f (thrW f (l.take i) s) ∧ ∀ k m, semK (thrW f (l.take i) s) k m ↔ kOut f (l.take i) (kAt f b) k m := by
  rcases hs with ⟨-, hg, hsem⟩ | ⟨hn, -⟩
  · obtain ⟨h1, h2⟩ := thrW_all h.kinds (l.take i) s (fun x hx => h.sets l (List.mem_of_getElem? hl) x (List.mem_of_mem_take hx)) hg
    exact ⟨h1, fun k m => (h2 k m).trans (out_congr _ hsem k m)⟩
  · exact absurd hp hn
theorem noFail_of {f : FunV} (h : KOk f) (h1 : ¬ AskF false f) (h2 : ¬ AskF true f) : NoFail f := by
  intro b l j x hl hp hx v hv
  obtain ⟨s, hs⟩ := kAt_ex h hp
  obtain ⟨hg, hsem⟩ := thr_sem h hl hp hs j
  constructor
  · rw [← hsem, semK_f]
    cases e : hasB (thrW f (l.take j) s).1 (v : Int) with
    | true => rfl
    | false => exact absurd ⟨b, l, s, hl, hp, hs, j, x, hx, v, hv, by unfold failB; rw [if_neg (by simp), e]; rfl⟩ h1
  · intro hk
    rw [← hsem, semK_t]
    cases e : hasB (thrW f (l.take j) s).2 (v : Int) with
    | true => rfl
    | false => exact absurd ⟨b, l, s, hl, hp, hs, j, x, hx, v, hv, by unfold failB; rw [if_pos rfl, e, isK_nat hk]; rfl⟩ h2
theorem ofkN_mem {f : FunV} {s : List Nat} {c : Int} {z : Int} : ∀ {k : Nat}, z ∈ ofkN f s c k ↔ ∃ u : Nat, z = (u : Int) ∧ u < k ∧ f.kinds.getD u 0 = c ∧ hasB s (u : Int) = true
  | 0 => by simp [ofkN]
  | k + 1 => by
    unfold ofkN
    rw [List.mem_append, ofkN_mem]
    constructor
    · rintro (⟨u, h1, h2, h3⟩ | h)
      · exact ⟨u, h1, by omega, h3⟩
      · split at h
        · rename_i h2
          simp only [List.mem_singleton] at h
          exact ⟨k, h, by omega, h2⟩
        · cases h
    · rintro ⟨u, h1, h2, h3⟩
      by_cases e : u = k
      · subst e
        right
        rw [if_pos h3, h1]
        simp
      · exact .inl ⟨u, h1, by omega, h3⟩
/-- All that KeepFresh asks at a place: what is kept ahead is set, its derived ones are fresh. -/
theorem fresh_all {p : List FunV} {f : FunV} (ha : AOk p f) (hko : KOk f) (hnf : NoFail f) {b i : Nat} {l : List InsV} (hl : f.blocks[b]? = some l) (hi : i < l.length) (hp : Pth f 0 (b : Int)) {s0 : List Nat} (h0 : LvQ f 0 (b : Int) (i : Int) s0) {s : KSt} (hs : KAt f b s) :
    (∀ v : Nat, hasB (closeL f s0) (v : Int) = true → hasB (thrW f (l.take i) s).1 (v : Int) = true) ∧ (∀ v : Nat, hasB (ofL (ofkN f (closeL f s0) 2 f.kinds.length)) (v : Int) = true → hasB (thrW f (l.take i) s).2 (v : Int) = true) := by
  obtain ⟨-, hsem⟩ := thr_sem hko hl hp hs i
  have hk48 := ha.ok.kinds
  have hk1000 : f.kinds.length ≤ 1000 := by omega
  have hlive := fun v hv => live_place (v := v) ha.ok.flow hnf hl hi hp h0 hv
  have hbs := bs_place ha hnf hl hp i (by omega)
  have kd : ∀ u : Nat, u < f.kinds.length → f.kinds.getD u 0 = 2 → f.kinds[u]? = some 2 := fun u hu h => by
    rw [List.getD_eq_getElem?_getD, List.getElem?_eq_getElem hu] at h
    rw [List.getElem?_eq_getElem hu]
    exact congrArg some h
  refine ⟨fun v hv => ?_, fun v hv => ?_⟩
  · obtain ⟨hm, -⟩ := (close_has hk1000 s0 v).1 hv
    obtain ⟨u, hu, hsu, hcase⟩ := (cls_mem f s0 f.kinds.length (v : Int)).1 hm
    rw [← semK_f, hsem]
    rcases hcase with h | ⟨hk2, hub, hvb⟩
    · obtain rfl : v = u := by omega
      exact (hlive v hsu).1
    · refine hbs u v ((hlive u hsu).2 (kd u hu hk2)) hub ?_
      rw [hvb, List.getD_eq_getElem?_getD, List.getElem?_eq_getElem hub]
      rfl
  · rw [hasB_ofL, decide_eq_true_eq] at hv
    obtain ⟨u, e, hu, hk2, hcu⟩ := ofkN_mem.1 hv.1
    obtain rfl : v = u := by omega
    rw [← semK_t, hsem]
    obtain ⟨hm, -⟩ := (close_has hk1000 s0 v).1 hcu
    obtain ⟨u2, hu2, hsu, hcase⟩ := (cls_mem f s0 f.kinds.length (v : Int)).1 hm
    rcases hcase with h | ⟨hk3, hub, hvb⟩
    · obtain rfl : v = u2 := by omega
      exact (hlive v hsu).2 (kd v hu hk2)
    · exfalso
      obtain ⟨b', e1, e2, e3⟩ := ha.ok.der hk3 hub
      obtain rfl : v = b' := by omega
      rw [e3] at hk2
      omega
end Go.Proofs.YtehboglielnjbaaGreatDoor
