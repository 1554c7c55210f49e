/- Plain mathematics of what is set, and fresh, at each place of a function: what an instruction leaves, what holds on all ways, and when a .. -/
import Derived.Test.YthbnbaikdcfbmaaGreatDoorPmNP
import Derived.Test.YthbnbaikdcfbmaaGreatDoorPmZN
set_option linter.unusedSimpArgs false
set_option linter.unusedVariables false
namespace Go.Proofs.YthbnbaikdcfbmaaGreatDoor
open Go.RowKit
def dSet (f : FunV) (x : InsV) (m : Nat) : Prop := ja9 x.op 68 = true /\ x.d = (m : Int) /\ m < f.kinds.length
def kS (f : FunV) (x : InsV) (P : Bool -> Nat -> Prop) (k : Bool) (m : Nat) : Prop :=
 if k = false then P false m \/ dSet f x m
 else (dSet f x m /\ f.kinds[m]? = some 2 /\ (x.op = 16 -> ∃ a : Nat, x.a = (a : Int) /\ P true a)) \/ (¬ dSet f x m /\ P true m /\ ¬ (ja9 x.op 68 = true /\ f.base[m]? = some x.d))
def kOut (f : FunV) (l : List InsV) (P : Bool -> Nat -> Prop) : Bool -> Nat -> Prop := l.foldl (fun P x => kS f x P) P
def kBlk (f : FunV) (b : Nat) (P : Bool -> Nat -> Prop) : Bool -> Nat -> Prop := match f.blocks[b]? with | some l => kOut f l P | none => P
def kIni (f : FunV) (k : Bool) (m : Nat) : Prop := k = false /\ (m : Int) < f.params /\ m < f.kinds.length
def leS (P Q : Bool -> Nat -> Prop) : Prop := ∀ k m, P k m -> Q k m
section
variable {f : FunV} {x : InsV} {P Q R : Bool -> Nat -> Prop}
theorem leS.trans (h : leS P Q) (h' : leS Q R) : leS P R := fun k m hp => h' k m (h k m hp)
theorem kS_mono (h : leS P Q) : leS (kS f x P) (kS f x Q) := fun k m hk => by
 unfold kS at hk ⊢
 split at hk
 ·rename_i e
  rw [if_pos e]
  exact hk.imp (h false m) id
 ·rename_i e
  rw [if_neg e]
  rcases hk with ⟨h1, h2, h3⟩ | ⟨h1, h2, h3⟩
  ·exact .inl ⟨h1, h2, fun ho => let ⟨a, ha, hp⟩ := h3 ho; ⟨a, ha, h true a hp⟩⟩
  ·exact .inr ⟨h1, h true m h2, h3⟩
theorem jgy (l : List InsV) (h : leS P Q) : leS (kOut f l P) (kOut f l Q) := by
 induction l generalizing P Q with
 | nil => exact h
 | cons x l ih => exact ih (kS_mono h)
theorem jdx (b : Nat) (h : leS P Q) : leS (kBlk f b P) (kBlk f b Q) := by
 unfold kBlk
 split
 ·exact jgy _ h
 ·exact h
def inK (f : FunV) (P : Bool -> Nat -> Prop) : Prop := (∀ k m, P k m -> m < f.kinds.length) /\ ∀ m, P true m -> f.kinds[m]? = some 2
theorem inK.ini (f : FunV) : inK f (kIni f) := ⟨fun k m h => h.2.2, fun m h => by cases h.1⟩
theorem inK.step (h : inK f P) : inK f (kS f x P) := by
 constructor
 ·intro k m hk
  unfold kS at hk
  split at hk
  ·rcases hk with hk | hk
   ·exact h.1 _ m hk
   ·exact hk.2.2
  ·rcases hk with hk | hk
   ·exact hk.1.2.2
   ·exact h.1 _ m hk.2.1
 ·intro m hk
  unfold kS at hk
  rw [if_neg (by simp)] at hk
  rcases hk with hk | hk
  ·exact hk.2.1
  ·exact h.2 m hk.2.1
theorem inK.out (l : List InsV) (h : inK f P) : inK f (kOut f l P) := by
 induction l generalizing P with
 | nil => exact h
 | cons x l ih => exact ih h.step
theorem inK.blk (b : Nat) (h : inK f P) : inK f (kBlk f b P) := by
 unfold kBlk
 split
 ·exact h.out _
 ·exact h
theorem inK.le (h : inK f Q) (hl : leS P Q) : inK f P := ⟨fun k m hp => h.1 k m (hl k m hp), fun m hp => h.2 m (hl true m hp)⟩
end
structure Sol (f : FunV) (L : Nat -> Bool -> Nat -> Prop) : Prop where
 zero : leS (L 0) (kIni f)
 edge : ∀ b c : Nat, Pth f 0 b -> (c : Int) ∈ nxt f b -> leS (L c) (kBlk f b (L b))
def kAt (f : FunV) (b : Nat) (k : Bool) (m : Nat) : Prop := ∃ L, Sol f L /\ L b k m
theorem Sol.le {f : FunV} {L : Nat -> Bool -> Nat -> Prop} (h : Sol f L) (b : Nat) : leS (L b) (kAt f b) := fun k m hl => ⟨L, h, hl⟩
theorem jdy (f : FunV) : Sol f (kAt f) where
 zero := fun k m ⟨L, h, hl⟩ => h.zero k m hl
 edge := fun b c hb hc k m ⟨L, h, hl⟩ => jdx b (h.le b) k m (h.edge b c hb hc k m hl)
theorem Pth.nat {f : FunV} (hok : jbn f) {a : Nat} {b : Int} (h : Pth f (a : Int) b) (ha : a < f.blocks.length) : ∃ n : Nat, b = n /\ n < f.blocks.length :=
 h (fun z => ∃ n : Nat, z = n /\ n < f.blocks.length) ⟨a, rfl, ha⟩ fun x hx v hv => ⟨v.toNat, by have := hok.2.2 x v hv; omega, by have := hok.2.2 x v hv; omega⟩
theorem Pth.ind {f : FunV} (hok : jbn f) (T : Nat -> Prop) {b : Nat} (h : Pth f 0 (b : Int)) (h0 : T 0) (hs : ∀ x c : Nat, Pth f 0 (x : Int) -> T x -> (c : Int) ∈ nxt f x -> T c) : T b := by
 have := h (fun z => Pth f 0 z /\ ∀ n : Nat, z = n -> T n) ⟨Pth.refl _ _, fun n hn => by rw [show n = 0 by omega]; exact h0⟩
  (fun x hx v hv => ⟨hx.1.trans (Pth.step (by omega) (by rwa [Int.toNat_natCast])), fun n hn => hs x n hx.1 (hx.2 x rfl) (hn ▸ hv)⟩)
 exact this.2 b rfl
theorem Sol.inK {f : FunV} (hok : jbn f) {L : Nat -> Bool -> Nat -> Prop} (h : Sol f L) {b : Nat} (hb : Pth f 0 (b : Int)) : inK f (L b) :=
 Pth.ind hok (fun b => Go.Proofs.YthbnbaikdcfbmaaGreatDoor.inK f (L b)) hb ((inK.ini f).le h.zero) fun x c hx hi hc => (hi.blk x).le (h.edge x c hx hc)
abbrev KSt : Type := List Nat × List Nat
def semK (s : KSt) (k : Bool) (m : Nat) : Prop := hasB (if k = true then s.2 else s.1) (m : Int) = true
structure GoodK (f : FunV) (s : KSt) : Prop where
 t1 : Tidy s.1
 t2 : Tidy s.2
 w1 : W64 s.1
 w2 : W64 s.2
 l1 : s.1.length <= 64
 l2 : s.2.length <= 64
 bnd : ∀ k m, semK s k m -> m < f.kinds.length
theorem word_ext {a b : List Nat} (ha : W64 a) (hb : W64 b) (h : ∀ m : Nat, hasB a (m : Int) = hasB b (m : Int)) (i : Nat) : a.getD i 0 = b.getD i 0 := by
 apply Nat.eq_of_testBit_eq
 intro j
 by_cases hj : j < 64
 ·have := h (64 * i + j)
  rw [jax, jax] at this
  rw [show (64 * i + j) / 64 = i by omega, show (64 * i + j) % 64 = j by omega] at this
  exact this
 ·rw [bit64 (ha.getD i) (by omega), bit64 (hb.getD i) (by omega)]
theorem jlv {a b : List Nat} (ha : W64 a) (hb : W64 b) (ta : Tidy a) (tb : Tidy b) (h : ∀ m : Nat, hasB a (m : Int) = true ↔ hasB b (m : Int) = true) : a = b :=
 jeu ta tb (word_ext ha hb fun m => by rw [Bool.eq_iff_iff]; exact h m)
theorem GoodK.ext {f g : FunV} {s t : KSt} (hs : GoodK f s) (ht : GoodK g t) (h : ∀ k m, semK s k m ↔ semK t k m) : s = t := by
 obtain ⟨s1, s2⟩ := s
 obtain ⟨t1, t2⟩ := t
 have e1 : s1 = t1 := jlv hs.w1 ht.w1 hs.t1 ht.t1 fun m => h false m
 have e2 : s2 = t2 := jlv hs.w2 ht.w2 hs.t2 ht.t2 fun m => h true m
 rw [e1, e2]
theorem joj {l : List Nat} (h : l.length <= 64) : (neat l).length <= 64 := Nat.le_trans (jd0 l) h
theorem jc1 (ls : List (List Nat)) : Tidy (jaw ls) := jbf _
theorem jcd (s : List Nat) (l : List Int) : Tidy (ja3 s l) := jbf _
theorem jg5 {s : List Nat} (h : s.length <= 64) (l : List Int) : (jaw [s, ofL l]).length <= 64 := by
 rw [jd3]
 refine joj ?_
 have := jdv s l
 omega
theorem jg4 {s : List Nat} (h : W64 s) (l : List Int) : W64 (jaw [s, ofL l]) := jgz fun l' hl => by
 simp at hl
 rcases hl with rfl | rfl
 ·exact h
 ·exact jgu _
def jca (f : FunV) (v : Int) (k : Nat) : List Int := ((List.range k).filter (fun d : Nat => decide (f.base[d]? = some v))).map (fun d : Nat => (d : Int))
theorem dersN_mem {f : FunV} {v : Int} {k : Nat} {z : Int} : z ∈ jca f v k ↔ ∃ d : Nat, z = d /\ d < k /\ f.base[d]? = some v := by
 unfold jca
 simp only [List.mem_map, List.mem_filter, List.mem_range, decide_eq_true_eq]
 exact ⟨fun ⟨d, ⟨h1, h2⟩, e⟩ => ⟨d, e.symm, h1, h2⟩, fun ⟨d, e, h1, h2⟩ => ⟨d, ⟨h1, h2⟩, e.symm⟩⟩
theorem jse {f : FunV} {v : Int} {k : Nat} (h : f.base[k]? = some v) : jca f v k ++ [(k : Int)] = jca f v (k + 1) := by
 unfold jca
 rw [List.range_succ, List.filter_append, List.map_append]
 simp [h]
theorem dersN_no {f : FunV} {v : Int} {k : Nat} (h : ¬ f.base[k]? = some v) : jca f v k = jca f v (k + 1) := by
 unfold jca
 rw [List.range_succ, List.filter_append, List.map_append]
 simp [h]
theorem jle (f : FunV) (v : Int) (k : Nat) : (jca f v k).length <= k := by
 unfold jca
 rw [List.length_map]
 exact Nat.le_trans (List.length_filter_le _ _) (by simp)
def jdp (f : FunV) (x : InsV) (t : List Nat) : Bool := decide (f.kinds[x.d.toNat]? = some 2) && (!(x.op == 16) || hasB t x.a)
def jb2 (f : FunV) (x : InsV) (s : KSt) : KSt :=
 if ja9 x.op 68 = true then (jaw [s.1, ofL [x.d]], if jdp f x s.2 = true then jaw [ja3 (ja3 s.2 [x.d]) (jca f x.d f.base.length), ofL [x.d]] else ja3 (ja3 s.2 [x.d]) (jca f x.d f.base.length))
 else (jaw [s.1, ofL []], jaw [s.2, ofL []])
theorem jgd (n : Int) : hasB [] n = false := by simp [hasB]
theorem hasB_ex {ws : List Nat} {n : Int} (h : hasB ws n = true) : ∃ a : Nat, n = a := by
 unfold hasB at h
 simp at h
 exact ⟨n.toNat, by omega⟩
section
variable {f : FunV} {x : InsV} {s : KSt}
theorem jc7 (s : KSt) (m : Nat) : semK s false m ↔ hasB s.1 (m : Int) = true := by simp [semK]
theorem jbr (s : KSt) (m : Nat) : semK s true m ↔ hasB s.2 (m : Int) = true := by simp [semK]
theorem jju (hs : GoodK f s) (hk : f.kinds.length <= 48) (hd : ja9 x.op 68 = true -> 0 <= x.d /\ x.d < f.kinds.length) (k : Bool) (m : Nat) : semK (jb2 f x s) k m ↔ kS f x (semK s) k m := by
 unfold jb2
 by_cases h68 : ja9 x.op 68 = true
 ·obtain ⟨d0, d1⟩ := hd h68
  obtain ⟨dn, hdn⟩ : ∃ n : Nat, x.d = n := ⟨x.d.toNat, by omega⟩
  have hdl : dn < f.kinds.length := by omega
  rw [if_pos h68]
  have hds : dSet f x m ↔ m = dn := by
   unfold dSet
   rw [hdn]
   constructor
   ·rintro ⟨-, h, -⟩; omega
   ·rintro rfl; exact ⟨h68, rfl, hdl⟩
  cases k
  ·rw [jc7]
   unfold kS
   rw [if_pos (show false = false from rfl), jc7, hds, jdz, Bool.or_eq_true, hdn]
   simp
   constructor
   ·rintro (h | ⟨h, -⟩)
    ·exact .inl h
    ·exact .inr (by omega)
   ·rintro (h | h)
    ·exact .inl h
    ·exact .inr ⟨by omega, by omega⟩
  ·rw [jbr]
   unfold kS
   rw [if_neg (show ¬ (true = false) by simp), jbr, hds]
   have hu : hasB (ja3 (ja3 s.2 [x.d]) (jca f x.d f.base.length)) (m : Int) = true ↔ hasB s.2 (m : Int) = true /\ m ≠ dn /\ ¬ f.base[m]? = some x.d := by
    rw [jbl (jag hs.w2 _), jbl hs.w2, Bool.and_eq_true, Bool.and_eq_true]
    simp only [Bool.not_eq_true', decide_eq_false_iff_not, dersN_mem, hdn]
    constructor
    ·rintro ⟨⟨h1, h2⟩, h3⟩
     refine ⟨h1, fun e => h2 (by simp [e]), fun e => h3 ⟨m, rfl, (List.getElem?_eq_some_iff.1 e).1, e⟩⟩
    ·rintro ⟨h1, h2, h3⟩
     refine ⟨⟨h1, by simp; omega⟩, ?_⟩
     rintro ⟨d, hd1, -, hd2⟩
     obtain rfl : m = d := by omega
     exact h3 hd2
   have hnd : jdp f x s.2 = true ↔ f.kinds[dn]? = some 2 /\ (x.op = 16 -> ∃ a : Nat, x.a = (a : Int) /\ semK s true a) := by
    unfold jdp
    rw [hdn, Int.toNat_natCast, Bool.and_eq_true, decide_eq_true_eq, Bool.or_eq_true]
    simp only [Bool.not_eq_true', beq_eq_false_iff_ne, ne_eq]
    refine and_congr_right fun _ => ?_
    constructor
    ·rintro (h | h) ho
     ·exact absurd ho h
     ·obtain ⟨a, ha⟩ := hasB_ex h
      exact ⟨a, ha, (jbr s a).2 (ha ▸ h)⟩
    ·intro h
     by_cases ho : x.op = 16
     ·obtain ⟨a, ha, hp⟩ := h ho
      exact .inr (by rw [ha]; exact (jbr s a).1 hp)
     ·exact .inl ho
   by_cases hn : jdp f x s.2 = true
   ·rw [if_pos hn, jdz, Bool.or_eq_true, hu]
    have hn2 := hnd.1 hn
    constructor
    ·rintro (⟨h1, h2, h3⟩ | h)
     ·exact .inr ⟨h2, h1, fun e => h3 e.2⟩
     ·have : m = dn := by rw [hdn] at h; simp at h; have := h.1; omega
      subst this
      exact .inl ⟨rfl, hn2⟩
    ·rintro (⟨rfl, -⟩ | ⟨h1, h2, h3⟩)
     ·exact .inr (by rw [hdn]; simp; omega)
     ·exact .inl ⟨h2, h1, fun e => h3 ⟨h68, e⟩⟩
   ·rw [if_neg hn, hu]
    constructor
    ·rintro ⟨h1, h2, h3⟩
     exact .inr ⟨h2, h1, fun e => h3 e.2⟩
    ·rintro (⟨rfl, h⟩ | ⟨h1, h2, h3⟩)
     ·exact absurd (hnd.2 h) hn
     ·exact ⟨h2, h1, fun e => h3 ⟨h68, e⟩⟩
 ·rw [if_neg h68]
  have hds : ¬ dSet f x m := fun h => h68 h.1
  cases k
  ·rw [jc7]
   unfold kS
   rw [if_pos (show false = false from rfl), jc7, jdz]
   simp [hds]
  ·rw [jbr]
   unfold kS
   rw [if_neg (show ¬ (true = false) by simp), jbr, jdz]
   simp [hds, h68]
theorem jfh (hs : GoodK f s) (hk : f.kinds.length <= 48) (hd : ja9 x.op 68 = true -> 0 <= x.d /\ x.d < f.kinds.length) : GoodK f (jb2 f x s) := by
 have hb : ∀ k m, semK (jb2 f x s) k m -> m < f.kinds.length := fun k m h => by
  have h2 := (jju hs hk hd k m).1 h
  unfold kS at h2
  split at h2
  ·rcases h2 with h2 | h2
   ·exact hs.bnd _ _ h2
   ·exact h2.2.2
  ·rcases h2 with h2 | h2
   ·exact h2.1.2.2
   ·exact hs.bnd _ _ h2.2.1
 have hwl : ∀ l l' : List Int, (ja3 (ja3 s.2 l) l').length <= 64 := fun l l' => Nat.le_trans (jb5 _ _) (Nat.le_trans (jb5 _ _) hs.l2)
 unfold jb2 at hb ⊢
 split
 ·rename_i h68
  rw [if_pos h68] at hb
  refine ⟨jc1 _, ?_, jg4 hs.w1 _, ?_, jg5 hs.l1 _, ?_, hb⟩
  ·dsimp only; split
   ·exact jc1 _
   ·exact jcd _ _
  ·dsimp only; split
   ·exact jg4 (jag (jag hs.w2 _) _) _
   ·exact jag (jag hs.w2 _) _
  ·dsimp only; split
   ·exact jg5 (hwl _ _) _
   ·exact hwl _ _
 ·rename_i h68
  rw [if_neg h68] at hb
  exact ⟨jc1 _, jc1 _, jg4 hs.w1 _, jg4 hs.w2 _, jg5 hs.l1 _, jg5 hs.l2 _, hb⟩
end
def jq3 (f : FunV) (l : List InsV) : Prop := ∀ x ∈ l, ja9 x.op 68 = true -> 0 <= x.d /\ x.d < f.kinds.length
def thrW (f : FunV) (l : List InsV) (s : KSt) : KSt := l.foldl (fun s x => jb2 f x s) s
theorem jdu (f : FunV) (l : List InsV) (x : InsV) (s : KSt) : thrW f (l ++ [x]) s = jb2 f x (thrW f l s) := by simp [thrW]
theorem jqo {f : FunV} {P Q : Bool -> Nat -> Prop} (l : List InsV) (h : ∀ k m, P k m ↔ Q k m) (k : Bool) (m : Nat) : kOut f l P k m ↔ kOut f l Q k m :=
 ⟨jgy l (fun k m hp => (h k m).1 hp) k m, jgy l (fun k m hp => (h k m).2 hp) k m⟩
theorem jev {f : FunV} (hk : f.kinds.length <= 48) : ∀ (l : List InsV) (s : KSt), jq3 f l -> GoodK f s -> GoodK f (thrW f l s) /\ ∀ k m, semK (thrW f l s) k m ↔ kOut f l (semK s) k m
 | [], s, _, hs => ⟨hs, fun _ _ => Iff.rfl⟩
 | x :: l, s, hl, hs => by
  have hd := hl x List.mem_cons_self
  obtain ⟨h1, h2⟩ := jev hk l (jb2 f x s) (fun y hy => hl y (List.mem_cons_of_mem _ hy)) (jfh hs hk hd)
  exact ⟨h1, fun k m => (h2 k m).trans (jqo l (jju hs hk hd) k m)⟩
def blkW (f : FunV) (b : Nat) (s : KSt) : KSt := match f.blocks[b]? with | some l => thrW f l s | none => s
structure KOk (f : FunV) : Prop where
 flow : jbn f
 one : 1 <= f.blocks.length
 kinds : f.kinds.length <= 48
 sets : ∀ l ∈ f.blocks, jq3 f l
 pn : 0 <= f.params
 pk : f.params <= f.kinds.length
 bl : f.base.length = f.kinds.length
theorem jcx {f : FunV} (h : KOk f) (b : Nat) {s : KSt} (hs : GoodK f s) : GoodK f (blkW f b s) /\ ∀ k m, semK (blkW f b s) k m ↔ kBlk f b (semK s) k m := by
 unfold blkW kBlk
 cases hb : f.blocks[b]? with
 | none => exact ⟨hs, fun _ _ => Iff.rfl⟩
 | some l => exact jev h.kinds l s (h.sets l (List.mem_of_getElem? hb)) hs
def jbd (s t : KSt) : KSt := (jce s.1 t.1, jce s.2 t.2)
theorem jl5 (a b : List Nat) (m : Nat) : hasB (jce a b) (m : Int) = (hasB a (m : Int) && hasB b (m : Int)) := by
 rw [jax, jax, jax, jfn, Nat.testBit_and]
theorem jb9 (s t : KSt) (k : Bool) (m : Nat) : semK (jbd s t) k m ↔ semK s k m /\ semK t k m := by
 cases k
 ·rw [jc7, jc7, jc7]; simp [jbd, jl5]
 ·rw [jbr, jbr, jbr]; simp [jbd, jl5]
theorem GoodK.meet {f : FunV} {s t : KSt} (hs : GoodK f s) (ht : GoodK f t) : GoodK f (jbd s t) where
 t1 := jbf _
 t2 := jbf _
 w1 := jkn hs.w1
 w2 := jkn hs.w2
 l1 := by have := jnf s.1 t.1; have := hs.l1; have := ht.l1; simp only [jbd]; omega
 l2 := by have := jnf s.2 t.2; have := hs.l2; have := ht.l2; simp only [jbd]; omega
 bnd := fun k m h => hs.bnd k m ((jb9 s t k m).1 h).1
theorem jr4 {f : FunV} {s t : KSt} (hs : GoodK f s) (ht : GoodK f t) : jbd s t = t ↔ leS (semK t) (semK s) := by
 constructor
 ·intro e k m h
  rw [<- e] at h
  exact ((jb9 s t k m).1 h).1
 ·intro h
  exact (hs.meet ht).ext ht fun k m => by rw [jb9]; exact ⟨fun h => h.2, fun ht => ⟨h k m ht, ht⟩⟩
theorem GoodK.nil (f : FunV) : GoodK f ([], []) := ⟨je5, je5, W64.nil, W64.nil, by simp, by simp, fun k m h => by cases k <;> simp [semK, jgd] at h⟩
def je4 (n : Nat) : List Int := (List.range n).map (fun v : Nat => (v : Int))
theorem argsN_mem {n : Nat} {z : Int} : z ∈ je4 n ↔ ∃ v : Nat, z = v /\ v < n := by
 unfold je4
 rw [List.mem_map]
 exact ⟨fun ⟨v, h, e⟩ => ⟨v, e.symm, List.mem_range.1 h⟩, fun ⟨v, e, h⟩ => ⟨v, List.mem_range.2 h, e.symm⟩⟩
def iniW (f : FunV) : KSt := (ofL (je4 f.params.toNat), [])
theorem hasB_ofL (l : List Int) (m : Nat) : hasB (ofL l) (m : Int) = decide ((m : Int) ∈ l /\ m < 4096) := by
 rw [jax, jiz, jie]
theorem jf8 {f : FunV} (h : KOk f) (k : Bool) (m : Nat) : semK (iniW f) k m ↔ kIni f k m := by
 have := h.pn
 have := h.pk
 have := h.kinds
 cases k
 ·rw [jc7]
  unfold iniW kIni
  rw [hasB_ofL, decide_eq_true_eq, argsN_mem]
  constructor
  ·rintro ⟨⟨v, h1, h3⟩, h2⟩; exact ⟨rfl, by omega, by omega⟩
  ·rintro ⟨-, h1, h2⟩; exact ⟨⟨m, rfl, by omega⟩, by omega⟩
 ·rw [jbr]
  unfold iniW kIni
  simp [jgd]
theorem jh1 {f : FunV} (h : KOk f) : GoodK f (iniW f) where
 t1 := ofL_tidy _
 t2 := je5
 w1 := jgu _
 w2 := W64.nil
 l1 := jiy _
 l2 := by simp [iniW]
 bnd := fun k m hs => ((jf8 h k m).1 hs).2.2
def potS (f : FunV) : Option KSt -> Nat
 | none => 2 * f.kinds.length + 1
 | some s => (List.range f.kinds.length).countP (fun m : Nat => hasB s.1 (m : Int)) + (List.range f.kinds.length).countP (fun m : Nat => hasB s.2 (m : Int))
def potK (f : FunV) (L : Nat -> Option KSt) : Nat := ((List.range f.blocks.length).map (fun b => potS f (L b))).sum
theorem je2 {α : Type} {p q : α -> Bool} : ∀ (l : List α), (∀ a ∈ l, p a = true -> q a = true) -> l.countP p <= l.countP q := fun l h => List.countP_mono_left h
theorem je1 {p q : Nat -> Bool} : ∀ (l : List Nat), (∀ a ∈ l, p a = true -> q a = true) -> (∃ a ∈ l, p a = false /\ q a = true) -> l.countP p < l.countP q
 | [], _, ⟨a, ha, _⟩ => by cases ha
 | y :: l, h, ⟨a, ha, h1, h2⟩ => by
  rw [List.countP_cons, List.countP_cons]
  have hm := je2 l fun a ha => h a (List.mem_cons_of_mem _ ha)
  rcases List.mem_cons.1 ha with rfl | ha
  ·rw [h1, h2]; simp; omega
  ·have := je1 l (fun a ha => h a (List.mem_cons_of_mem _ ha)) ⟨a, ha, h1, h2⟩
   have hy := h y List.mem_cons_self
   cases hp : p y
   ·simp; split <;> omega
   ·rw [hy hp]; simp; omega
theorem jis (f : FunV) (s : KSt) : potS f (some s) <= 2 * f.kinds.length := by
 simp only [potS]
 have h1 := List.countP_le_length (l := List.range f.kinds.length) (p := fun m : Nat => hasB s.1 (m : Int))
 have h2 := List.countP_le_length (l := List.range f.kinds.length) (p := fun m : Nat => hasB s.2 (m : Int))
 simp only [List.length_range] at h1 h2
 omega
theorem jql {f : FunV} {s t : KSt} (hs : GoodK f s) (ht : GoodK f t) (hl : leS (semK s) (semK t)) (hn : s ≠ t) : potS f (some s) < potS f (some t) := by
 have hx : ∃ k m, semK t k m /\ ¬ semK s k m := by
  apply Classical.byContradiction
  intro hc
  exact hn (hs.ext ht fun k m => ⟨hl k m, fun h => Classical.byContradiction fun h2 => hc ⟨k, m, h, h2⟩⟩)
 obtain ⟨k, m, h1, h2⟩ := hx
 have hm : m ∈ List.range f.kinds.length := List.mem_range.2 (ht.bnd k m h1)
 have a1 := je2 (p := fun m : Nat => hasB s.1 (m : Int)) (q := fun m : Nat => hasB t.1 (m : Int)) (List.range f.kinds.length) fun a _ h => (jc7 t a).1 (hl false a ((jc7 s a).2 h))
 have a2 := je2 (p := fun m : Nat => hasB s.2 (m : Int)) (q := fun m : Nat => hasB t.2 (m : Int)) (List.range f.kinds.length) fun a _ h => (jbr t a).1 (hl true a ((jbr s a).2 h))
 simp only [potS]
 cases k
 ·have := je1 (p := fun m : Nat => hasB s.1 (m : Int)) (q := fun m : Nat => hasB t.1 (m : Int)) (List.range f.kinds.length) (fun a _ h => (jc7 t a).1 (hl false a ((jc7 s a).2 h))) ⟨m, hm, Bool.eq_false_iff.2 fun h => h2 ((jc7 s m).2 h), (jc7 t m).1 h1⟩
  omega
 ·have := je1 (p := fun m : Nat => hasB s.2 (m : Int)) (q := fun m : Nat => hasB t.2 (m : Int)) (List.range f.kinds.length) (fun a _ h => (jbr t a).1 (hl true a ((jbr s a).2 h))) ⟨m, hm, Bool.eq_false_iff.2 fun h => h2 ((jbr s m).2 h), (jbr t m).1 h1⟩
  omega
def updK (L : Nat -> Option KSt) (c : Nat) (s : KSt) (b : Nat) : Option KSt := if b = c then some s else L b
theorem jb8 (L : Nat -> Option KSt) (c : Nat) (s : KSt) : updK L c s c = some s := by simp [updK]
theorem jan {L : Nat -> Option KSt} {c b : Nat} {s : KSt} (h : b ≠ c) : updK L c s b = L b := by simp [updK, h]
theorem jhv {n c : Nat} {g h : Nat -> Nat} (hc : c < n) (h1 : ∀ b, b ≠ c -> h b = g b) (h2 : h c < g c) : ((List.range n).map h).sum < ((List.range n).map g).sum := by
 induction n with
 | zero => omega
 | succ n ih =>
  rw [List.range_succ, List.map_append, List.map_append, List.sum_append, List.sum_append]
  simp only [List.map_cons, List.map_nil, List.sum_cons, List.sum_nil, Nat.add_zero]
  by_cases e : c = n
  ·subst e
   have : (List.range c).map h = (List.range c).map g := List.map_congr_left fun b hb => h1 b (by have := List.mem_range.1 hb; omega)
   rw [this]; omega
  ·have := ih (by omega)
   have := h1 n (fun e2 => e e2.symm)
   omega
theorem jm5 {f : FunV} {L : Nat -> Option KSt} {c : Nat} {s : KSt} (hc : c < f.blocks.length) (h : potS f (some s) < potS f (L c)) : potK f (updK L c s) < potK f L := by
 unfold potK
 refine jhv hc (fun b hb => by rw [jan hb]) ?_
 rw [jb8]
 exact h
structure BI (f : FunV) (L : Nat -> Option KSt) (due : List Nat) : Prop where
 zero : ∃ s, L 0 = some s
 ini : ∀ s, L 0 = some s -> leS (semK s) (kIni f)
 ok : ∀ b s, L b = some s -> b < f.blocks.length /\ Pth f 0 (b : Int) /\ GoodK f s /\ leS (kAt f b) (semK s)
 dues : ∀ b ∈ due, ∃ s, L b = some s
 done : ∀ b s, L b = some s -> b ∉ due -> ∀ c : Nat, (c : Int) ∈ nxt f b -> ∃ t, L c = some t /\ leS (semK t) (kBlk f b (semK s))
structure BJ (f : FunV) (b : Nat) (s0 : KSt) (j : Nat) (L : Nat -> Option KSt) (due : List Nat) : Prop where
 zero : ∃ s, L 0 = some s
 ini : ∀ s, L 0 = some s -> leS (semK s) (kIni f)
 ok : ∀ b s, L b = some s -> b < f.blocks.length /\ Pth f 0 (b : Int) /\ GoodK f s /\ leS (kAt f b) (semK s)
 dues : ∀ b ∈ due, ∃ s, L b = some s
 done : ∀ b' s, b' ≠ b -> L b' = some s -> b' ∉ due -> ∀ c : Nat, (c : Int) ∈ nxt f b' -> ∃ t, L c = some t /\ leS (semK t) (kBlk f b' (semK s))
 own : b ∈ due \/ L b = some s0
 pth : Pth f 0 (b : Int)
 bl : b < f.blocks.length
 good : GoodK f s0
 from0 : leS (kAt f b) (semK s0)
 part : ∀ c : Nat, (c : Int) ∈ (nxt f b).take j -> ∃ t, L c = some t /\ leS (semK t) (kBlk f b (semK s0))
section
variable {f : FunV} {L : Nat -> Option KSt} {due due' : List Nat} {b c j : Nat} {s0 s : KSt}
theorem BI.start (h : KOk f) : BI f (updK (fun _ => none) 0 (iniW f)) [0] where
 zero := ⟨_, jb8 _ _ _⟩
 ini := fun s hs k m hm => by
  rw [jb8] at hs
  cases hs
  exact (jf8 h k m).1 hm
 ok := fun b s hs => by
  unfold updK at hs
  split at hs
  ·rename_i e
   subst e
   cases hs
   exact ⟨h.one, Pth.refl _ _, jh1 h, fun k m hm => (jf8 h k m).2 ((jdy f).zero k m hm)⟩
  ·cases hs
 dues := fun b hb => by
  simp at hb
  subst hb
  exact ⟨_, jb8 _ _ _⟩
 done := fun b s hs hn => by
  simp at hn
  rw [jan hn] at hs
  cases hs
theorem BI.pop (h : BI f L (b :: due)) : ∃ s, L b = some s /\ BJ f b s 0 L due := by
 obtain ⟨s, hs⟩ := h.dues b List.mem_cons_self
 obtain ⟨h1, h2, h3, h4⟩ := h.ok b s hs
 exact ⟨s, hs, h.zero, h.ini, h.ok, fun b hb => h.dues b (List.mem_cons_of_mem _ hb), fun b' s' hne hs' hn => h.done b' s' hs' (by simp [hne, hn]), .inr hs, h2, h1, h3, h4, fun c hc => by simp at hc⟩
theorem BJ.stay (h : BJ f b s0 j L due) (hc : (nxt f b)[j]? = some (c : Int)) (hs : L c = some s) (hl : leS (semK s) (kBlk f b (semK s0))) : BJ f b s0 (j + 1) L due where
 zero := h.zero
 ini := h.ini
 ok := h.ok
 dues := h.dues
 done := h.done
 own := h.own
 pth := h.pth
 bl := h.bl
 good := h.good
 from0 := h.from0
 part := fun c' hc' => by
  rw [List.take_add_one, hc] at hc'
  simp only [Option.toList_some, List.mem_append, List.mem_singleton] at hc'
  rcases hc' with hc' | hc'
  ·exact h.part c' hc'
  ·obtain rfl : c' = c := by omega
   exact ⟨s, hs, hl⟩
theorem BJ.move (h : BJ f b s0 j L due) (hok : jbn f) (hc : (nxt f b)[j]? = some (c : Int)) (hg : GoodK f s) (ha : leS (kAt f c) (semK s)) (hl : leS (semK s) (kBlk f b (semK s0))) (ho : ∀ t, L c = some t -> leS (semK s) (semK t))
  (hd : c ∈ due') (hs : ∀ x ∈ due, x ∈ due') (hs' : ∀ x ∈ due', x ∈ due \/ x = c) : BJ f b s0 (j + 1) (updK L c s) due' where
 zero := by
  by_cases e : 0 = c
  ·subst e; exact ⟨_, jb8 _ _ _⟩
  ·obtain ⟨t, ht⟩ := h.zero
   exact ⟨t, by rw [jan e]; exact ht⟩
 ini := fun t ht => by
  by_cases e : 0 = c
  ·subst e
   rw [jb8] at ht
   cases ht
   obtain ⟨t, ht⟩ := h.zero
   exact (ho t ht).trans (h.ini t ht)
  ·rw [jan e] at ht
   exact h.ini t ht
 ok := fun b' t ht => by
  by_cases e : b' = c
  ·subst e
   rw [jb8] at ht
   cases ht
   have hm := List.mem_of_getElem? hc
   exact ⟨by have := hok.2.2 b _ hm; omega, h.pth.trans (Pth.step (by omega) (by rwa [Int.toNat_natCast])), hg, ha⟩
  ·rw [jan e] at ht
   exact h.ok b' t ht
 dues := fun b' hb' => by
  by_cases e : b' = c
  ·subst e; exact ⟨_, jb8 _ _ _⟩
  ·rw [jan e]
   rcases hs' b' hb' with h1 | h1
   ·exact h.dues b' h1
   ·exact absurd h1 e
 done := fun b' t hne ht hn c' hc' => by
  have hbc : b' ≠ c := fun e => hn (e ▸ hd)
  rw [jan hbc] at ht
  obtain ⟨u, hu, hle⟩ := h.done b' t hne ht (fun hx => hn (hs b' hx)) c' hc'
  by_cases e : c' = c
  ·subst e
   exact ⟨s, jb8 _ _ _, (ho u hu).trans hle⟩
  ·exact ⟨u, by rw [jan e]; exact hu, hle⟩
 own := by
  by_cases e : b = c
  ·subst e; exact .inl hd
  ·rw [jan e]
   exact h.own.imp (hs b) id
 pth := h.pth
 bl := h.bl
 good := h.good
 from0 := h.from0
 part := fun c' hc' => by
  by_cases e : c' = c
  ·subst e
   exact ⟨s, jb8 _ _ _, hl⟩
  ·rw [List.take_add_one, hc] at hc'
   simp only [Option.toList_some, List.mem_append, List.mem_singleton] at hc'
   rw [jan e]
   rcases hc' with hc' | hc'
   ·exact h.part c' hc'
   ·omega
theorem BJ.done' (h : BJ f b s0 j L due) (hj : (nxt f b).length <= j) : BI f L due where
 zero := h.zero
 ini := h.ini
 ok := h.ok
 dues := h.dues
 done := fun b' s hs hn c hc => by
  by_cases e : b' = b
  ·subst e
   rcases h.own with h1 | h1
   ·exact absurd h1 hn
   ·rw [h1] at hs
    cases hs
    exact h.part c (by rw [List.take_of_length_le hj]; exact hc)
  ·exact h.done b' s e hs hn c hc
theorem BJ.above (h : BJ f b s0 j L due) (hk : KOk f) (hc : (nxt f b)[j]? = some (c : Int)) : leS (kAt f c) (semK (blkW f b s0)) := fun k m hm =>
 ((jcx hk b h.good).2 k m).2 (jdx b h.from0 k m ((jdy f).edge b c h.pth (List.mem_of_getElem? hc) k m hm))
theorem BJ.fresh (h : BJ f b s0 j L due) (hk : KOk f) (hc : (nxt f b)[j]? = some (c : Int)) (hn : L c = none) (hd : c ∈ due') (hs : ∀ x ∈ due, x ∈ due') (hs' : ∀ x ∈ due', x ∈ due \/ x = c) :
  BJ f b s0 (j + 1) (updK L c (blkW f b s0)) due' /\ potK f (updK L c (blkW f b s0)) < potK f L := by
 have hg := jcx hk b h.good
 refine ⟨h.move hk.flow hc hg.1 (h.above hk hc) (fun k m hm => (hg.2 k m).1 hm) (fun t ht => by rw [hn] at ht; cases ht) hd hs hs', jm5 ?_ ?_⟩
 ·have := hk.flow.2.2 b _ (List.mem_of_getElem? hc); omega
 ·rw [hn]
  have := jis f (blkW f b s0)
  simp only [potS] at this ⊢
  omega
theorem BJ.less (h : BJ f b s0 j L due) (hk : KOk f) (hc : (nxt f b)[j]? = some (c : Int)) {t : KSt} (ht : L c = some t) (hne : jbd (blkW f b s0) t ≠ t) (hd : c ∈ due') (hs : ∀ x ∈ due, x ∈ due') (hs' : ∀ x ∈ due', x ∈ due \/ x = c) :
  BJ f b s0 (j + 1) (updK L c (jbd (blkW f b s0) t)) due' /\ potK f (updK L c (jbd (blkW f b s0) t)) < potK f L := by
 have hg := jcx hk b h.good
 obtain ⟨h1, h2, h3, h4⟩ := h.ok c t ht
 have hl : leS (semK (jbd (blkW f b s0) t)) (semK t) := fun k m hm => ((jb9 _ _ k m).1 hm).2
 refine ⟨h.move hk.flow hc (hg.1.meet h3) (fun k m hm => (jb9 _ _ k m).2 ⟨h.above hk hc k m hm, h4 k m hm⟩) (fun k m hm => (hg.2 k m).1 ((jb9 _ _ k m).1 hm).1) (fun t' ht' => by rw [ht] at ht'; cases ht'; exact hl) hd hs hs', jm5 h1 ?_⟩
 rw [ht]
 exact jql (hg.1.meet h3) h3 hl hne
theorem BJ.keep (h : BJ f b s0 j L due) (hk : KOk f) (hc : (nxt f b)[j]? = some (c : Int)) {t : KSt} (ht : L c = some t) (he : jbd (blkW f b s0) t = t) : BJ f b s0 (j + 1) L due := by
 have hg := jcx hk b h.good
 obtain ⟨h1, h2, h3, h4⟩ := h.ok c t ht
 exact h.stay hc ht fun k m hm => (hg.2 k m).1 ((jr4 hg.1 h3).1 he k m hm)
end
def KAt (f : FunV) (b : Nat) (s : KSt) : Prop := (Pth f 0 (b : Int) /\ GoodK f s /\ ∀ k m, semK s k m ↔ kAt f b k m) \/ (¬ Pth f 0 (b : Int) /\ s = ([], []))
theorem KAt.one {f : FunV} {b : Nat} {s t : KSt} (h : KAt f b s) (h' : KAt f b t) : s = t := by
 rcases h with ⟨h1, h2, h3⟩ | ⟨h1, h2⟩ <;> rcases h' with ⟨h1', h2', h3'⟩ | ⟨h1', h2'⟩
 ·exact h2.ext h2' fun k m => (h3 k m).trans (h3' k m).symm
 ·exact absurd h1 h1'
 ·exact absurd h1' h1
 ·rw [h2, h2']
theorem KAt.good {f : FunV} {b : Nat} {s : KSt} (h : KAt f b s) : GoodK f s := by
 rcases h with ⟨h1, h2, h3⟩ | ⟨h1, h2⟩
 ·exact h2
 ·rw [h2]; exact GoodK.nil f
theorem BI.all {f : FunV} {L : Nat -> Option KSt} (hk : KOk f) (h : BI f L []) (b : Nat) : (∃ s, L b = some s) ↔ Pth f 0 (b : Int) := by
 constructor
 ·rintro ⟨s, hs⟩
  exact (h.ok b s hs).2.1
 ·intro hp
  exact Pth.ind hk.flow (fun b => ∃ s, L b = some s) hp h.zero fun x c hx ⟨s, hs⟩ hc => let ⟨t, ht, _⟩ := h.done x s hs (by simp) c hc; ⟨t, ht⟩
theorem BI.sol {f : FunV} {L : Nat -> Option KSt} (hk : KOk f) (h : BI f L []) : Sol f (fun b k m => ∃ s, L b = some s /\ semK s k m) where
 zero := fun k m ⟨s, hs, hm⟩ => h.ini s hs k m hm
 edge := fun b c hb hc k m ⟨t, ht, hm⟩ => by
  obtain ⟨s, hs⟩ := (h.all hk b).2 hb
  obtain ⟨t', ht', hl⟩ := h.done b s hs (by simp) c hc
  rw [ht] at ht'
  cases ht'
  exact jdx b (fun k m hm => ⟨s, hs, hm⟩) k m (hl k m hm)
theorem BI.at {f : FunV} {L : Nat -> Option KSt} (hk : KOk f) (h : BI f L []) (b : Nat) : KAt f b ((L b).getD ([], [])) := by
 cases hb : L b with
 | none => exact .inr ⟨fun hp => (by obtain ⟨s, hs⟩ := (h.all hk b).2 hp; rw [hb] at hs; cases hs), rfl⟩
 | some s =>
  obtain ⟨h1, h2, h3, h4⟩ := h.ok b s hb
  exact .inl ⟨h2, h3, fun k m => ⟨fun hm => (h.sol hk).le b k m ⟨s, hb, hm⟩, h4 k m⟩⟩
end Go.Proofs.YthbnbaikdcfbmaaGreatDoor
