/- Plain mathematics of what is set, and fresh, at each place of a function: what an instruction leaves, what holds on all ways, and when a list of sets has just that. No condition. -/
import Derived.Test.YteoopilmdlhkhaaDoorPaNP
import Derived.Test.YteoopilmdlhkhaaDoorPaZN
set_option linter.unusedSimpArgs false
set_option linter.unusedVariables false
namespace Go.Proofs.YteoopilmdlhkhaaDoor
open Go.RowKit

/-- An instruction sets the variable m. -/
def dSet (f : FunV) (x : InsV) (m : Nat) : Prop := hasB4 x.op 68 = true ∧ x.d = (m : Int) ∧ m < f.kinds.length
/-- What is set (false), and fresh (true), behind an instruction. -/
def kS (f : FunV) (x : InsV) (P : Bool → Nat → Prop) (k : Bool) (m : Nat) : Prop :=
  if k = false then P false m ∨ dSet f x m
  else (dSet f x m ∧ f.kinds[m]? = some 2 ∧ (x.op = 16 → ∃ a : Nat, x.a = (a : Int) ∧ P true a)) ∨ (¬ dSet f x m ∧ P true m ∧ ¬ (hasB4 x.op 68 = true ∧ f.base[m]? = some x.d))
def kOut (f : FunV) (l : List InsV) (P : Bool → Nat → Prop) : Bool → Nat → Prop := l.foldl (fun P x => kS f x P) P
def kBlk (f : FunV) (b : Nat) (P : Bool → Nat → Prop) : Bool → Nat → Prop := match f.blocks[b]? with | some l => kOut f l P | none => P
def kIni (f : FunV) (k : Bool) (m : Nat) : Prop := k = false ∧ (m : Int) < f.params ∧ m < f.kinds.length
def leS (P Q : Bool → Nat → Prop) : Prop := ∀ k m, P k m → Q k m
section
variable {f : FunV} {x : InsV} {P Q R : Bool → Nat → Prop}
theorem leS.refl (P : Bool → Nat → Prop) : leS P P := fun _ _ h => h
theorem leS.trans (h : leS P Q) (h' : leS Q R) : leS P R := fun k m hp => h' k m (h k m hp)
theorem kS_mono (h : leS P Q) : leS (kS f x P) (kS f x Q) := fun k m hk => by
  unfold kS at hk ⊢
  split at hk
  · rename_i e
    rw [if_pos e]
    exact hk.imp (h false m) id
  · rename_i e
    rw [if_neg e]
    rcases hk with ⟨h1, h2, h3⟩ | ⟨h1, h2, h3⟩
    · exact .inl ⟨h1, h2, fun ho => let ⟨a, ha, hp⟩ := h3 ho; ⟨a, ha, h true a hp⟩⟩
    · exact .inr ⟨h1, h true m h2, h3⟩
theorem kOut_mono (l : List InsV) (h : leS P Q) : leS (kOut f l P) (kOut f l Q) := by
  induction l generalizing P Q with
  | nil => exact h
  | cons x l ih => exact ih (kS_mono h)
theorem kBlk_mono (b : Nat) (h : leS P Q) : leS (kBlk f b P) (kBlk f b Q) := by
  unfold kBlk
  split
  · exact kOut_mono _ h
  · exact h
/-- Nothing but variables, and fresh none but derived pointers. -/
def inK (f : FunV) (P : Bool → Nat → Prop) : Prop := (∀ k m, P k m → m < f.kinds.length) ∧ ∀ m, P true m → f.kinds[m]? = some 2
theorem inK.ini (f : FunV) : inK f (kIni f) := ⟨fun k m h => h.2.2, fun m h => by cases h.1⟩
theorem inK.step (h : inK f P) : inK f (kS f x P) := by
  constructor
  · intro k m hk
    unfold kS at hk
    split at hk
    · rcases hk with hk | hk
      · exact h.1 _ m hk
      · exact hk.2.2
    · rcases hk with hk | hk
      · exact hk.1.2.2
      · exact h.1 _ m hk.2.1
  · intro m hk
    unfold kS at hk
    rw [if_neg (by simp)] at hk
    rcases hk with hk | hk
    · exact hk.2.1
    · exact h.2 m hk.2.1
theorem inK.out (l : List InsV) (h : inK f P) : inK f (kOut f l P) := by
  induction l generalizing P with
  | nil => exact h
  | cons x l ih => exact ih h.step
theorem inK.blk (b : Nat) (h : inK f P) : inK f (kBlk f b P) := by
  unfold kBlk
  split
  · exact h.out _
  · exact h
theorem inK.le (h : inK f Q) (hl : leS P Q) : inK f P := ⟨fun k m hp => h.1 k m (hl k m hp), fun m hp => h.2 m (hl true m hp)⟩
end
/-- What is told at the beginning of each block is no more than the ways allow. -/
structure Sol (f : FunV) (L : Nat → Bool → Nat → Prop) : Prop where
  zero : leS (L 0) (kIni f)
  edge : ∀ b c : Nat, Pth f 0 b → (c : Int) ∈ nxt f b → leS (L c) (kBlk f b (L b))
/-- What holds at the beginning of a block: all that some such telling tells. -/
def kAt (f : FunV) (b : Nat) (k : Bool) (m : Nat) : Prop := ∃ L, Sol f L ∧ L b k m
theorem Sol.le {f : FunV} {L : Nat → Bool → Nat → Prop} (h : Sol f L) (b : Nat) : leS (L b) (kAt f b) := fun k m hl => ⟨L, h, hl⟩
theorem kAt_sol (f : FunV) : Sol f (kAt f) where
  zero := fun k m ⟨L, h, hl⟩ => h.zero k m hl
  edge := fun b c hb hc k m ⟨L, h, hl⟩ => kBlk_mono b (h.le b) k m (h.edge b c hb hc k m hl)
theorem Pth.nat {f : FunV} (hok : FlowOk f) {a : Nat} {b : Int} (h : Pth f (a : Int) b) (ha : a < f.blocks.length) : ∃ n : Nat, b = n ∧ n < f.blocks.length :=
  h (fun z => ∃ n : Nat, z = n ∧ n < f.blocks.length) ⟨a, rfl, ha⟩ fun x hx v hv => ⟨v.toNat, by have := hok.2.2 x v hv; omega, by have := hok.2.2 x v hv; omega⟩
/-- A property of blocks that ways carry. -/
theorem Pth.ind {f : FunV} (hok : FlowOk f) (T : Nat → Prop) {b : Nat} (h : Pth f 0 (b : Int)) (h0 : T 0) (hs : ∀ x c : Nat, Pth f 0 (x : Int) → T x → (c : Int) ∈ nxt f x → T c) : T b := by
  have := h (fun z => Pth f 0 z ∧ ∀ n : Nat, z = n → T n) ⟨Pth.refl _ _, fun n hn => by rw [show n = 0 by omega]; exact h0⟩
    (fun x hx v hv => ⟨hx.1.trans (Pth.step (by omega) (by rwa [Int.toNat_natCast])), fun n hn => hs x n hx.1 (hx.2 x rfl) (hn ▸ hv)⟩)
  exact this.2 b rfl
theorem Sol.inK {f : FunV} (hok : FlowOk f) {L : Nat → Bool → Nat → Prop} (h : Sol f L) {b : Nat} (hb : Pth f 0 (b : Int)) : inK f (L b) :=
  Pth.ind hok (fun b => Go.Proofs.YteoopilmdlhkhaaDoor.inK f (L b)) hb ((inK.ini f).le h.zero) fun x c hx hi hc => (hi.blk x).le (h.edge x c hx hc)
/-- Along each way what is told holds. -/
inductive Way (f : FunV) : Nat → (Bool → Nat → Prop) → Prop
  | nil : Way f 0 (kIni f)
  | step {b c : Nat} {P : Bool → Nat → Prop} : Way f b P → (c : Int) ∈ nxt f b → Way f c (kBlk f b P)
theorem Way.pth {f : FunV} {b : Nat} {P : Bool → Nat → Prop} (h : Way f b P) : Pth f 0 (b : Int) := by
  induction h with
  | nil => exact Pth.refl _ _
  | step h hc ih => exact ih.trans (Pth.step (by omega) (by rwa [Int.toNat_natCast]))
theorem Way.le {f : FunV} {b : Nat} {P : Bool → Nat → Prop} (h : Way f b P) : leS (kAt f b) P := by
  induction h with
  | nil => exact (kAt_sol f).zero
  | step h hc ih => exact ((kAt_sol f).edge _ _ h.pth hc).trans (kBlk_mono _ ih)

/-- Two sets as words: which variables are set, and fresh. -/
abbrev KSt : Type := List Nat × List Nat
def semK (s : KSt) (k : Bool) (m : Nat) : Prop := hasB (if k = true then s.2 else s.1) (m : Int) = true
structure GoodK (f : FunV) (s : KSt) : Prop where
  t1 : Tidy s.1
  t2 : Tidy s.2
  w1 : W64 s.1
  w2 : W64 s.2
  l1 : s.1.length ≤ 64
  l2 : s.2.length ≤ 64
  bnd : ∀ k m, semK s k m → m < f.kinds.length
theorem word_ext {a b : List Nat} (ha : W64 a) (hb : W64 b) (h : ∀ m : Nat, hasB a (m : Int) = hasB b (m : Int)) (i : Nat) : a.getD i 0 = b.getD i 0 := by
  apply Nat.eq_of_testBit_eq
  intro j
  by_cases hj : j < 64
  · have := h (64 * i + j)
    rw [hasB_nat, hasB_nat] at this
    rw [show (64 * i + j) / 64 = i by omega, show (64 * i + j) % 64 = j by omega] at this
    exact this
  · rw [bit64 (ha.getD i) (by omega), bit64 (hb.getD i) (by omega)]
theorem set_ext {a b : List Nat} (ha : W64 a) (hb : W64 b) (ta : Tidy a) (tb : Tidy b) (h : ∀ m : Nat, hasB a (m : Int) = true ↔ hasB b (m : Int) = true) : a = b :=
  tidy_ext ta tb (word_ext ha hb fun m => by rw [Bool.eq_iff_iff]; exact h m)
theorem GoodK.ext {f g : FunV} {s t : KSt} (hs : GoodK f s) (ht : GoodK g t) (h : ∀ k m, semK s k m ↔ semK t k m) : s = t := by
  obtain ⟨s1, s2⟩ := s
  obtain ⟨t1, t2⟩ := t
  have e1 : s1 = t1 := set_ext hs.w1 ht.w1 hs.t1 ht.t1 fun m => h false m
  have e2 : s2 = t2 := set_ext hs.w2 ht.w2 hs.t2 ht.t2 fun m => h true m
  rw [e1, e2]
theorem neat_len64 {l : List Nat} (h : l.length ≤ 64) : (neat l).length ≤ 64 := Nat.le_trans (neat_le l) h
theorem joinL_tidy' (ls : List (List Nat)) : Tidy (joinL ls) := neat_tidy _
theorem withoutL_tidy (s : List Nat) (l : List Int) : Tidy (withoutL s l) := neat_tidy _
theorem with_len {s : List Nat} (h : s.length ≤ 64) (l : List Int) : (joinL [s, ofL l]).length ≤ 64 := by
  rw [with_both]
  refine neat_len64 ?_
  have := putsL_len s l
  omega
theorem with_w64 {s : List Nat} (h : W64 s) (l : List Int) : W64 (joinL [s, ofL l]) := joinL_w64 fun l' hl => by
  simp at hl
  rcases hl with rfl | rfl
  · exact h
  · exact ofL_w64 _
/-- The derived pointers with the base v, as the program lists them. -/
def dersN (f : FunV) (v : Int) (k : Nat) : List Int := ((List.range k).filter (fun d : Nat => decide (f.base[d]? = some v))).map (fun d : Nat => (d : Int))
theorem dersN_mem {f : FunV} {v : Int} {k : Nat} {z : Int} : z ∈ dersN f v k ↔ ∃ d : Nat, z = d ∧ d < k ∧ f.base[d]? = some v := by
  unfold dersN
  simp only [List.mem_map, List.mem_filter, List.mem_range, decide_eq_true_eq]
  exact ⟨fun ⟨d, ⟨h1, h2⟩, e⟩ => ⟨d, e.symm, h1, h2⟩, fun ⟨d, e, h1, h2⟩ => ⟨d, ⟨h1, h2⟩, e.symm⟩⟩
/-- Is what an instruction sets a derived pointer, and made anew? -/
def newDer (f : FunV) (x : InsV) (t : List Nat) : Bool := decide (f.kinds[x.d.toNat]? = some 2) && (!(x.op == 16) || hasB t x.a)
def stepW (f : FunV) (x : InsV) (s : KSt) : KSt :=
  if hasB4 x.op 68 = true then (joinL [s.1, ofL [x.d]], if newDer f x s.2 = true then joinL [withoutL (withoutL s.2 [x.d]) (dersN f x.d f.base.length), ofL [x.d]] else withoutL (withoutL s.2 [x.d]) (dersN f x.d f.base.length))
  else (joinL [s.1, ofL []], joinL [s.2, ofL []])
theorem hasB_nil (n : Int) : hasB [] n = false := by simp [hasB]
theorem hasB_ex {ws : List Nat} {n : Int} (h : hasB ws n = true) : ∃ a : Nat, n = a := by
  unfold hasB at h
  simp at h
  exact ⟨n.toNat, by omega⟩
section
variable {f : FunV} {x : InsV} {s : KSt}
theorem semK_f (s : KSt) (m : Nat) : semK s false m ↔ hasB s.1 (m : Int) = true := by simp [semK]
theorem semK_t (s : KSt) (m : Nat) : semK s true m ↔ hasB s.2 (m : Int) = true := by simp [semK]
theorem stepW_sem (hs : GoodK f s) (hk : f.kinds.length ≤ 48) (hd : hasB4 x.op 68 = true → 0 ≤ x.d ∧ x.d < f.kinds.length) (k : Bool) (m : Nat) : semK (stepW f x s) k m ↔ kS f x (semK s) k m := by
  unfold stepW
  by_cases h68 : hasB4 x.op 68 = true
  · obtain ⟨d0, d1⟩ := hd h68
    obtain ⟨dn, hdn⟩ : ∃ n : Nat, x.d = n := ⟨x.d.toNat, by omega⟩
    have hdl : dn < f.kinds.length := by omega
    rw [if_pos h68]
    have hds : dSet f x m ↔ m = dn := by
      unfold dSet
      rw [hdn]
      constructor
      · rintro ⟨-, h, -⟩; omega
      · rintro rfl; exact ⟨h68, rfl, hdl⟩
    cases k
    · rw [semK_f]
      unfold kS
      rw [if_pos (show false = false from rfl), semK_f, hds, hasB_with, Bool.or_eq_true, hdn]
      simp
      constructor
      · rintro (h | ⟨h, -⟩)
        · exact .inl h
        · exact .inr (by omega)
      · rintro (h | h)
        · exact .inl h
        · exact .inr ⟨by omega, by omega⟩
    · rw [semK_t]
      unfold kS
      rw [if_neg (show ¬ (true = false) by simp), semK_t, hds]
      have hu : hasB (withoutL (withoutL s.2 [x.d]) (dersN f x.d f.base.length)) (m : Int) = true ↔ hasB s.2 (m : Int) = true ∧ m ≠ dn ∧ ¬ f.base[m]? = some x.d := by
        rw [hasB_without (withoutL_w64 hs.w2 _), hasB_without hs.w2, Bool.and_eq_true, Bool.and_eq_true]
        simp only [Bool.not_eq_true', decide_eq_false_iff_not, dersN_mem, hdn]
        constructor
        · rintro ⟨⟨h1, h2⟩, h3⟩
          refine ⟨h1, fun e => h2 (by simp [e]), fun e => h3 ⟨m, rfl, (List.getElem?_eq_some_iff.1 e).1, e⟩⟩
        · rintro ⟨h1, h2, h3⟩
          refine ⟨⟨h1, by simp; omega⟩, ?_⟩
          rintro ⟨d, hd1, -, hd2⟩
          obtain rfl : m = d := by omega
          exact h3 hd2
      have hnd : newDer f x s.2 = true ↔ f.kinds[dn]? = some 2 ∧ (x.op = 16 → ∃ a : Nat, x.a = (a : Int) ∧ semK s true a) := by
        unfold newDer
        rw [hdn, Int.toNat_natCast, Bool.and_eq_true, decide_eq_true_eq, Bool.or_eq_true]
        simp only [Bool.not_eq_true', beq_eq_false_iff_ne, ne_eq]
        refine and_congr_right fun _ => ?_
        constructor
        · rintro (h | h) ho
          · exact absurd ho h
          · obtain ⟨a, ha⟩ := hasB_ex h
            exact ⟨a, ha, (semK_t s a).2 (ha ▸ h)⟩
        · intro h
          by_cases ho : x.op = 16
          · obtain ⟨a, ha, hp⟩ := h ho
            exact .inr (by rw [ha]; exact (semK_t s a).1 hp)
          · exact .inl ho
      by_cases hn : newDer f x s.2 = true
      · rw [if_pos hn, hasB_with, Bool.or_eq_true, hu]
        have hn2 := hnd.1 hn
        constructor
        · rintro (⟨h1, h2, h3⟩ | h)
          · exact .inr ⟨h2, h1, fun e => h3 e.2⟩
          · have : m = dn := by rw [hdn] at h; simp at h; have := h.1; omega
            subst this
            exact .inl ⟨rfl, hn2⟩
        · rintro (⟨rfl, -⟩ | ⟨h1, h2, h3⟩)
          · exact .inr (by rw [hdn]; simp; omega)
          · exact .inl ⟨h2, h1, fun e => h3 ⟨h68, e⟩⟩
      · rw [if_neg hn, hu]
        constructor
        · rintro ⟨h1, h2, h3⟩
          exact .inr ⟨h2, h1, fun e => h3 e.2⟩
        · rintro (⟨rfl, h⟩ | ⟨h1, h2, h3⟩)
          · exact absurd (hnd.2 h) hn
          · exact ⟨h2, h1, fun e => h3 ⟨h68, e⟩⟩
  · rw [if_neg h68]
    have hds : ¬ dSet f x m := fun h => h68 h.1
    cases k
    · rw [semK_f]
      unfold kS
      rw [if_pos (show false = false from rfl), semK_f, hasB_with]
      simp [hds]
    · rw [semK_t]
      unfold kS
      rw [if_neg (show ¬ (true = false) by simp), semK_t, hasB_with]
      simp [hds, h68]
theorem stepW_good (hs : GoodK f s) (hk : f.kinds.length ≤ 48) (hd : hasB4 x.op 68 = true → 0 ≤ x.d ∧ x.d < f.kinds.length) : GoodK f (stepW f x s) := by
  have hb : ∀ k m, semK (stepW f x s) k m → m < f.kinds.length := fun k m h => by
    have h2 := (stepW_sem hs hk hd k m).1 h
    unfold kS at h2
    split at h2
    · rcases h2 with h2 | h2
      · exact hs.bnd _ _ h2
      · exact h2.2.2
    · rcases h2 with h2 | h2
      · exact h2.1.2.2
      · exact hs.bnd _ _ h2.2.1
  have hwl : ∀ l l' : List Int, (withoutL (withoutL s.2 l) l').length ≤ 64 := fun l l' => Nat.le_trans (withoutL_len _ _) (Nat.le_trans (withoutL_len _ _) hs.l2)
  unfold stepW at hb ⊢
  split
  · rename_i h68
    rw [if_pos h68] at hb
    refine ⟨joinL_tidy' _, ?_, with_w64 hs.w1 _, ?_, with_len hs.l1 _, ?_, hb⟩
    · dsimp only; split
      · exact joinL_tidy' _
      · exact withoutL_tidy _ _
    · dsimp only; split
      · exact with_w64 (withoutL_w64 (withoutL_w64 hs.w2 _) _) _
      · exact withoutL_w64 (withoutL_w64 hs.w2 _) _
    · dsimp only; split
      · exact with_len (hwl _ _) _
      · exact hwl _ _
  · rename_i h68
    rw [if_neg h68] at hb
    exact ⟨joinL_tidy' _, joinL_tidy' _, with_w64 hs.w1 _, with_w64 hs.w2 _, with_len hs.l1 _, with_len hs.l2 _, hb⟩
end
/-- Instructions that set none but variables. -/
def setsIn (f : FunV) (l : List InsV) : Prop := ∀ x ∈ l, hasB4 x.op 68 = true → 0 ≤ x.d ∧ x.d < f.kinds.length
def thrW (f : FunV) (l : List InsV) (s : KSt) : KSt := l.foldl (fun s x => stepW f x s) s
theorem out_congr {f : FunV} {P Q : Bool → Nat → Prop} (l : List InsV) (h : ∀ k m, P k m ↔ Q k m) (k : Bool) (m : Nat) : kOut f l P k m ↔ kOut f l Q k m :=
  ⟨kOut_mono l (fun k m hp => (h k m).1 hp) k m, kOut_mono l (fun k m hp => (h k m).2 hp) k m⟩
theorem thrW_all {f : FunV} (hk : f.kinds.length ≤ 48) : ∀ (l : List InsV) (s : KSt), setsIn f l → GoodK f s → GoodK f (thrW f l s) ∧ ∀ k m, semK (thrW f l s) k m ↔ kOut f l (semK s) k m
  | [], s, _, hs => ⟨hs, fun _ _ => Iff.rfl⟩
  | x :: l, s, hl, hs => by
    have hd := hl x List.mem_cons_self
    obtain ⟨h1, h2⟩ := thrW_all hk l (stepW f x s) (fun y hy => hl y (List.mem_cons_of_mem _ hy)) (stepW_good hs hk hd)
    exact ⟨h1, fun k m => (h2 k m).trans (out_congr l (stepW_sem hs hk hd) k m)⟩
/-- What the block b leaves of s, as words. -/
def blkW (f : FunV) (b : Nat) (s : KSt) : KSt := match f.blocks[b]? with | some l => thrW f l s | none => s
structure KOk (f : FunV) : Prop where
  flow : FlowOk f
  one : 1 ≤ f.blocks.length
  kinds : f.kinds.length ≤ 48
  sets : ∀ l ∈ f.blocks, setsIn f l
  pn : 0 ≤ f.params
  pk : f.params ≤ f.kinds.length
  bl : f.base.length = f.kinds.length
theorem blkW_all {f : FunV} (h : KOk f) (b : Nat) {s : KSt} (hs : GoodK f s) : GoodK f (blkW f b s) ∧ ∀ k m, semK (blkW f b s) k m ↔ kBlk f b (semK s) k m := by
  unfold blkW kBlk
  cases hb : f.blocks[b]? with
  | none => exact ⟨hs, fun _ _ => Iff.rfl⟩
  | some l => exact thrW_all h.kinds l s (h.sets l (List.mem_of_getElem? hb)) hs
/-- What holds in both. -/
def meetK (s t : KSt) : KSt := (meetL s.1 t.1, meetL s.2 t.2)
theorem hasB_meet (a b : List Nat) (m : Nat) : hasB (meetL a b) (m : Int) = (hasB a (m : Int) && hasB b (m : Int)) := by
  rw [hasB_nat, hasB_nat, hasB_nat, meetL_getD, Nat.testBit_and]
theorem semK_meet (s t : KSt) (k : Bool) (m : Nat) : semK (meetK s t) k m ↔ semK s k m ∧ semK t k m := by
  cases k
  · rw [semK_f, semK_f, semK_f]; simp [meetK, hasB_meet]
  · rw [semK_t, semK_t, semK_t]; simp [meetK, hasB_meet]
theorem GoodK.meet {f : FunV} {s t : KSt} (hs : GoodK f s) (ht : GoodK f t) : GoodK f (meetK s t) where
  t1 := neat_tidy _
  t2 := neat_tidy _
  w1 := meetL_w64 hs.w1
  w2 := meetL_w64 hs.w2
  l1 := by have := meetL_le s.1 t.1; have := hs.l1; have := ht.l1; simp only [meetK]; omega
  l2 := by have := meetL_le s.2 t.2; have := hs.l2; have := ht.l2; simp only [meetK]; omega
  bnd := fun k m h => hs.bnd k m ((semK_meet s t k m).1 h).1
theorem meet_same {f : FunV} {s t : KSt} (hs : GoodK f s) (ht : GoodK f t) : meetK s t = t ↔ leS (semK t) (semK s) := by
  constructor
  · intro e k m h
    rw [← e] at h
    exact ((semK_meet s t k m).1 h).1
  · intro h
    exact (hs.meet ht).ext ht fun k m => by rw [semK_meet]; exact ⟨fun h => h.2, fun ht => ⟨h k m ht, ht⟩⟩
theorem GoodK.nil (f : FunV) : GoodK f ([], []) := ⟨tidy_nil, tidy_nil, W64.nil, W64.nil, by simp, by simp, fun k m h => by cases k <;> simp [semK, hasB_nil] at h⟩
/-- The beginning: the arguments are set. -/
def argsN (n : Nat) : List Int := (List.range n).map (fun v : Nat => (v : Int))
theorem argsN_mem {n : Nat} {z : Int} : z ∈ argsN n ↔ ∃ v : Nat, z = v ∧ v < n := by
  unfold argsN
  rw [List.mem_map]
  exact ⟨fun ⟨v, h, e⟩ => ⟨v, e.symm, List.mem_range.1 h⟩, fun ⟨v, e, h⟩ => ⟨v, List.mem_range.2 h, e.symm⟩⟩
def iniW (f : FunV) : KSt := (ofL (argsN f.params.toNat), [])
theorem hasB_ofL (l : List Int) (m : Nat) : hasB (ofL l) (m : Int) = decide ((m : Int) ∈ l ∧ m < 4096) := by
  rw [hasB_nat, ofL_getD, bitsOf_bit]
theorem iniW_sem {f : FunV} (h : KOk f) (k : Bool) (m : Nat) : semK (iniW f) k m ↔ kIni f k m := by
  have := h.pn
  have := h.pk
  have := h.kinds
  cases k
  · rw [semK_f]
    unfold iniW kIni
    rw [hasB_ofL, decide_eq_true_eq, argsN_mem]
    constructor
    · rintro ⟨⟨v, h1, h3⟩, h2⟩; exact ⟨rfl, by omega, by omega⟩
    · rintro ⟨-, h1, h2⟩; exact ⟨⟨m, rfl, by omega⟩, by omega⟩
  · rw [semK_t]
    unfold iniW kIni
    simp [hasB_nil]
theorem iniW_good {f : FunV} (h : KOk f) : GoodK f (iniW f) where
  t1 := ofL_tidy _
  t2 := tidy_nil
  w1 := ofL_w64 _
  w2 := W64.nil
  l1 := ofL_len _
  l2 := by simp [iniW]
  bnd := fun k m hs => ((iniW_sem h k m).1 hs).2.2
/-- How much may still be lost. -/
def potS (f : FunV) : Option KSt → Nat
  | none => 2 * f.kinds.length + 1
  | some s => (List.range f.kinds.length).countP (fun m : Nat => hasB s.1 (m : Int)) + (List.range f.kinds.length).countP (fun m : Nat => hasB s.2 (m : Int))
def potK (f : FunV) (L : Nat → Option KSt) : Nat := ((List.range f.blocks.length).map (fun b => potS f (L b))).sum
theorem countP_le_of {α : Type} {p q : α → Bool} : ∀ (l : List α), (∀ a ∈ l, p a = true → q a = true) → l.countP p ≤ l.countP q := fun l h => List.countP_mono_left h
theorem countP_lt_of {p q : Nat → Bool} : ∀ (l : List Nat), (∀ a ∈ l, p a = true → q a = true) → (∃ a ∈ l, p a = false ∧ q a = true) → l.countP p < l.countP q
  | [], _, ⟨a, ha, _⟩ => by cases ha
  | y :: l, h, ⟨a, ha, h1, h2⟩ => by
    rw [List.countP_cons, List.countP_cons]
    have hm := countP_le_of l fun a ha => h a (List.mem_cons_of_mem _ ha)
    rcases List.mem_cons.1 ha with rfl | ha
    · rw [h1, h2]; simp; omega
    · have := countP_lt_of l (fun a ha => h a (List.mem_cons_of_mem _ ha)) ⟨a, ha, h1, h2⟩
      have hy := h y List.mem_cons_self
      cases hp : p y
      · simp; split <;> omega
      · rw [hy hp]; simp; omega
theorem potS_le (f : FunV) (s : KSt) : potS f (some s) ≤ 2 * f.kinds.length := by
  simp only [potS]
  have h1 := List.countP_le_length (l := List.range f.kinds.length) (p := fun m : Nat => hasB s.1 (m : Int))
  have h2 := List.countP_le_length (l := List.range f.kinds.length) (p := fun m : Nat => hasB s.2 (m : Int))
  simp only [List.length_range] at h1 h2
  omega
theorem potS_lt {f : FunV} {s t : KSt} (hs : GoodK f s) (ht : GoodK f t) (hl : leS (semK s) (semK t)) (hn : s ≠ t) : potS f (some s) < potS f (some t) := by
  have hx : ∃ k m, semK t k m ∧ ¬ semK s k m := by
    apply Classical.byContradiction
    intro hc
    exact hn (hs.ext ht fun k m => ⟨hl k m, fun h => Classical.byContradiction fun h2 => hc ⟨k, m, h, h2⟩⟩)
  obtain ⟨k, m, h1, h2⟩ := hx
  have hm : m ∈ List.range f.kinds.length := List.mem_range.2 (ht.bnd k m h1)
  have a1 := countP_le_of (p := fun m : Nat => hasB s.1 (m : Int)) (q := fun m : Nat => hasB t.1 (m : Int)) (List.range f.kinds.length) fun a _ h => (semK_f t a).1 (hl false a ((semK_f s a).2 h))
  have a2 := countP_le_of (p := fun m : Nat => hasB s.2 (m : Int)) (q := fun m : Nat => hasB t.2 (m : Int)) (List.range f.kinds.length) fun a _ h => (semK_t t a).1 (hl true a ((semK_t s a).2 h))
  simp only [potS]
  cases k
  · have := countP_lt_of (p := fun m : Nat => hasB s.1 (m : Int)) (q := fun m : Nat => hasB t.1 (m : Int)) (List.range f.kinds.length) (fun a _ h => (semK_f t a).1 (hl false a ((semK_f s a).2 h))) ⟨m, hm, Bool.eq_false_iff.2 fun h => h2 ((semK_f s m).2 h), (semK_f t m).1 h1⟩
    omega
  · have := countP_lt_of (p := fun m : Nat => hasB s.2 (m : Int)) (q := fun m : Nat => hasB t.2 (m : Int)) (List.range f.kinds.length) (fun a _ h => (semK_t t a).1 (hl true a ((semK_t s a).2 h))) ⟨m, hm, Bool.eq_false_iff.2 fun h => h2 ((semK_t s m).2 h), (semK_t t m).1 h1⟩
    omega
def updK (L : Nat → Option KSt) (c : Nat) (s : KSt) (b : Nat) : Option KSt := if b = c then some s else L b
theorem updK_same (L : Nat → Option KSt) (c : Nat) (s : KSt) : updK L c s c = some s := by simp [updK]
theorem updK_other {L : Nat → Option KSt} {c b : Nat} {s : KSt} (h : b ≠ c) : updK L c s b = L b := by simp [updK, h]
theorem sum_map_lt {n c : Nat} {g h : Nat → Nat} (hc : c < n) (h1 : ∀ b, b ≠ c → h b = g b) (h2 : h c < g c) : ((List.range n).map h).sum < ((List.range n).map g).sum := by
  induction n with
  | zero => omega
  | succ n ih =>
    rw [List.range_succ, List.map_append, List.map_append, List.sum_append, List.sum_append]
    simp only [List.map_cons, List.map_nil, List.sum_cons, List.sum_nil, Nat.add_zero]
    by_cases e : c = n
    · subst e
      have : (List.range c).map h = (List.range c).map g := List.map_congr_left fun b hb => h1 b (by have := List.mem_range.1 hb; omega)
      rw [this]; omega
    · have := ih (by omega)
      have := h1 n (fun e2 => e e2.symm)
      omega
/-- The states under way: each as words, of blocks that were come to; those of 'due' are to be looked at again. -/
structure BI (f : FunV) (L : Nat → Option KSt) (due : List Nat) : Prop where
  zero : ∃ s, L 0 = some s
  ini : ∀ s, L 0 = some s → leS (semK s) (kIni f)
  ok : ∀ b s, L b = some s → b < f.blocks.length ∧ Pth f 0 (b : Int) ∧ GoodK f s ∧ leS (kAt f b) (semK s)
  dues : ∀ b ∈ due, ∃ s, L b = some s
  done : ∀ b s, L b = some s → b ∉ due → ∀ c : Nat, (c : Int) ∈ nxt f b → ∃ t, L c = some t ∧ leS (semK t) (kBlk f b (semK s))
/-- .. while the edges of block b are gone along: s0 is what held there, the first j of what comes next are through. -/
structure BJ (f : FunV) (b : Nat) (s0 : KSt) (j : Nat) (L : Nat → Option KSt) (due : List Nat) : Prop where
  zero : ∃ s, L 0 = some s
  ini : ∀ s, L 0 = some s → leS (semK s) (kIni f)
  ok : ∀ b s, L b = some s → b < f.blocks.length ∧ Pth f 0 (b : Int) ∧ GoodK f s ∧ leS (kAt f b) (semK s)
  dues : ∀ b ∈ due, ∃ s, L b = some s
  done : ∀ b' s, b' ≠ b → L b' = some s → b' ∉ due → ∀ c : Nat, (c : Int) ∈ nxt f b' → ∃ t, L c = some t ∧ leS (semK t) (kBlk f b' (semK s))
  own : b ∈ due ∨ L b = some s0
  pth : Pth f 0 (b : Int)
  bl : b < f.blocks.length
  good : GoodK f s0
  from0 : leS (kAt f b) (semK s0)
  part : ∀ c : Nat, (c : Int) ∈ (nxt f b).take j → ∃ t, L c = some t ∧ leS (semK t) (kBlk f b (semK s0))
section
variable {f : FunV} {L : Nat → Option KSt} {due due' : List Nat} {b c j : Nat} {s0 s : KSt}
theorem BI.start (h : KOk f) : BI f (updK (fun _ => none) 0 (iniW f)) [0] where
  zero := ⟨_, updK_same _ _ _⟩
  ini := fun s hs k m hm => by
    rw [updK_same] at hs
    cases hs
    exact (iniW_sem h k m).1 hm
  ok := fun b s hs => by
    unfold updK at hs
    split at hs
    · rename_i e
      subst e
      cases hs
      exact ⟨h.one, Pth.refl _ _, iniW_good h, fun k m hm => (iniW_sem h k m).2 ((kAt_sol f).zero k m hm)⟩
    · cases hs
  dues := fun b hb => by
    simp at hb
    subst hb
    exact ⟨_, updK_same _ _ _⟩
  done := fun b s hs hn => by
    simp at hn
    rw [updK_other hn] at hs
    cases hs
theorem BI.pop (h : BI f L (b :: due)) : ∃ s, L b = some s ∧ BJ f b s 0 L due := by
  obtain ⟨s, hs⟩ := h.dues b List.mem_cons_self
  obtain ⟨h1, h2, h3, h4⟩ := h.ok b s hs
  exact ⟨s, hs, h.zero, h.ini, h.ok, fun b hb => h.dues b (List.mem_cons_of_mem _ hb), fun b' s' hne hs' hn => h.done b' s' hs' (by simp [hne, hn]), .inr hs, h2, h1, h3, h4, fun c hc => by simp at hc⟩
theorem BJ.stay (h : BJ f b s0 j L due) (hc : (nxt f b)[j]? = some (c : Int)) (hs : L c = some s) (hl : leS (semK s) (kBlk f b (semK s0))) : BJ f b s0 (j + 1) L due where
  zero := h.zero
  ini := h.ini
  ok := h.ok
  dues := h.dues
  done := h.done
  own := h.own
  pth := h.pth
  bl := h.bl
  good := h.good
  from0 := h.from0
  part := fun c' hc' => by
    rw [List.take_add_one, hc] at hc'
    simp only [Option.toList_some, List.mem_append, List.mem_singleton] at hc'
    rcases hc' with hc' | hc'
    · exact h.part c' hc'
    · obtain rfl : c' = c := by omega
      exact ⟨s, hs, hl⟩
theorem BJ.move (h : BJ f b s0 j L due) (hok : FlowOk f) (hc : (nxt f b)[j]? = some (c : Int)) (hg : GoodK f s) (ha : leS (kAt f c) (semK s)) (hl : leS (semK s) (kBlk f b (semK s0))) (ho : ∀ t, L c = some t → leS (semK s) (semK t))
    (hd : c ∈ due') (hs : ∀ x ∈ due, x ∈ due') (hs' : ∀ x ∈ due', x ∈ due ∨ x = c) : BJ f b s0 (j + 1) (updK L c s) due' where
  zero := by
    by_cases e : 0 = c
    · subst e; exact ⟨_, updK_same _ _ _⟩
    · obtain ⟨t, ht⟩ := h.zero
      exact ⟨t, by rw [updK_other e]; exact ht⟩
  ini := fun t ht => by
    by_cases e : 0 = c
    · subst e
      rw [updK_same] at ht
      cases ht
      obtain ⟨t, ht⟩ := h.zero
      exact (ho t ht).trans (h.ini t ht)
    · rw [updK_other e] at ht
      exact h.ini t ht
  ok := fun b' t ht => by
    by_cases e : b' = c
    · subst e
      rw [updK_same] at ht
      cases ht
      have hm := List.mem_of_getElem? hc
      exact ⟨by have := hok.2.2 b _ hm; omega, h.pth.trans (Pth.step (by omega) (by rwa [Int.toNat_natCast])), hg, ha⟩
    · rw [updK_other e] at ht
      exact h.ok b' t ht
  dues := fun b' hb' => by
    by_cases e : b' = c
    · subst e; exact ⟨_, updK_same _ _ _⟩
    · rw [updK_other e]
      rcases hs' b' hb' with h1 | h1
      · exact h.dues b' h1
      · exact absurd h1 e
  done := fun b' t hne ht hn c' hc' => by
    have hbc : b' ≠ c := fun e => hn (e ▸ hd)
    rw [updK_other hbc] at ht
    obtain ⟨u, hu, hle⟩ := h.done b' t hne ht (fun hx => hn (hs b' hx)) c' hc'
    by_cases e : c' = c
    · subst e
      exact ⟨s, updK_same _ _ _, (ho u hu).trans hle⟩
    · exact ⟨u, by rw [updK_other e]; exact hu, hle⟩
  own := by
    by_cases e : b = c
    · subst e; exact .inl hd
    · rw [updK_other e]
      exact h.own.imp (hs b) id
  pth := h.pth
  bl := h.bl
  good := h.good
  from0 := h.from0
  part := fun c' hc' => by
    by_cases e : c' = c
    · subst e
      exact ⟨s, updK_same _ _ _, hl⟩
    · rw [List.take_add_one, hc] at hc'
      simp only [Option.toList_some, List.mem_append, List.mem_singleton] at hc'
      rw [updK_other e]
      rcases hc' with hc' | hc'
      · exact h.part c' hc'
      · omega
/-- What is brought along an edge is no less than what holds there. -/
theorem BJ.above (h : BJ f b s0 j L due) (hk : KOk f) (hc : (nxt f b)[j]? = some (c : Int)) : leS (kAt f c) (semK (blkW f b s0)) := fun k m hm =>
  ((blkW_all hk b h.good).2 k m).2 (kBlk_mono b h.from0 k m ((kAt_sol f).edge b c h.pth (List.mem_of_getElem? hc) k m hm))
theorem BJ.keep (h : BJ f b s0 j L due) (hk : KOk f) (hc : (nxt f b)[j]? = some (c : Int)) {t : KSt} (ht : L c = some t) (he : meetK (blkW f b s0) t = t) : BJ f b s0 (j + 1) L due := by
  have hg := blkW_all hk b h.good
  obtain ⟨h1, h2, h3, h4⟩ := h.ok c t ht
  exact h.stay hc ht fun k m hm => (hg.2 k m).1 ((meet_same hg.1 h3).1 he k m hm)
end
/-- What holds at the beginning of block b, as words; of one that isn't reached nothing. -/
def KAt (f : FunV) (b : Nat) (s : KSt) : Prop := (Pth f 0 (b : Int) ∧ GoodK f s ∧ ∀ k m, semK s k m ↔ kAt f b k m) ∨ (¬ Pth f 0 (b : Int) ∧ s = ([], []))
theorem KAt.one {f : FunV} {b : Nat} {s t : KSt} (h : KAt f b s) (h' : KAt f b t) : s = t := by
  rcases h with ⟨h1, h2, h3⟩ | ⟨h1, h2⟩ <;> rcases h' with ⟨h1', h2', h3'⟩ | ⟨h1', h2'⟩
  · exact h2.ext h2' fun k m => (h3 k m).trans (h3' k m).symm
  · exact absurd h1 h1'
  · exact absurd h1' h1
  · rw [h2, h2']
theorem KAt.good {f : FunV} {b : Nat} {s : KSt} (h : KAt f b s) : GoodK f s := by
  rcases h with ⟨h1, h2, h3⟩ | ⟨h1, h2⟩
  · exact h2
  · rw [h2]; exact GoodK.nil f
theorem KAt.le {f : FunV} {b : Nat} {s : KSt} (h : KAt f b s) (hp : Pth f 0 (b : Int)) (k : Bool) (m : Nat) : semK s k m ↔ kAt f b k m := by
  rcases h with ⟨h1, h2, h3⟩ | ⟨h1, h2⟩
  · exact h3 k m
  · exact absurd hp h1
theorem BI.all {f : FunV} {L : Nat → Option KSt} (hk : KOk f) (h : BI f L []) (b : Nat) : (∃ s, L b = some s) ↔ Pth f 0 (b : Int) := by
  constructor
  · rintro ⟨s, hs⟩
    exact (h.ok b s hs).2.1
  · intro hp
    exact Pth.ind hk.flow (fun b => ∃ s, L b = some s) hp h.zero fun x c hx ⟨s, hs⟩ hc => let ⟨t, ht, _⟩ := h.done x s hs (by simp) c hc; ⟨t, ht⟩
theorem BI.sol {f : FunV} {L : Nat → Option KSt} (hk : KOk f) (h : BI f L []) : Sol f (fun b k m => ∃ s, L b = some s ∧ semK s k m) where
  zero := fun k m ⟨s, hs, hm⟩ => h.ini s hs k m hm
  edge := fun b c hb hc k m ⟨t, ht, hm⟩ => by
    obtain ⟨s, hs⟩ := (h.all hk b).2 hb
    obtain ⟨t', ht', hl⟩ := h.done b s hs (by simp) c hc
    rw [ht] at ht'
    cases ht'
    exact kBlk_mono b (fun k m hm => ⟨s, hs, hm⟩) k m (hl k m hm)
theorem BI.at {f : FunV} {L : Nat → Option KSt} (hk : KOk f) (h : BI f L []) (b : Nat) : KAt f b ((L b).getD ([], [])) := by
  cases hb : L b with
  | none => exact .inr ⟨fun hp => (by obtain ⟨s, hs⟩ := (h.all hk b).2 hp; rw [hb] at hs; cases hs), rfl⟩
  | some s =>
    obtain ⟨h1, h2, h3, h4⟩ := h.ok b s hb
    exact .inl ⟨h2, h3, fun k m => ⟨fun hm => (h.sol hk).le b k m ⟨s, hb, hm⟩, h4 k m⟩⟩
end Go.Proofs.YteoopilmdlhkhaaDoor
