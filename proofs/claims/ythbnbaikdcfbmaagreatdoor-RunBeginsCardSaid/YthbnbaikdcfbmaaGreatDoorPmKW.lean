/- Texts of several names, of which only what the statement needs is kept. -/
import Derived.Test.YthbnbaikdcfbmaaGreatDoorPmKM
set_option linter.unusedSimpArgs false
set_option linter.unusedVariables false
set_option maxHeartbeats 4000000
set_option maxRecDepth 100000
namespace Go.Proofs.YthbnbaikdcfbmaaGreatDoor
open Go.RowKit
def jlp (st : Bool) (p : List FunV) : Prop := ∃ f ∈ p, AskF st f
def ChkR (p : List FunV) (n : Nat) : Prop :=
 (jad p = false /\ n = 5) \/ (jad p = true /\ misB p = true /\ n = 6) \/ (jad p = true /\ misB p = false /\ jlp false p /\ n = 7) \/ (jad p = true /\ misB p = false /\ ¬ jlp false p /\ jlp true p /\ n = 8) \/ (jad p = true /\ misB p = false /\ ¬ jlp false p /\ ¬ jlp true p /\ n = 0)
theorem jmy {p : List FunV} (h : jad p = true) (hf : jaz p) : ∀ f ∈ p, ∀ l ∈ f.blocks, ∀ x ∈ l, UseOk x := by
 intro f hfm l hl x hx
 obtain ⟨-, -, -, hall⟩ := jal h
 obtain ⟨⟨-, hk, -⟩, -, -, -, hmay⟩ := jah (hall f hfm)
 refine ⟨hf f hfm l hl x hx, fun v hv => ?_⟩
 have := jc6 ((jcm (hmay l hl x hx)).2.2.2.1 v hv)
 unfold i64R
 omega
theorem jor (p : List FunV) (vp : Value) (w : World) (B : Nat) (hB : B <= w.heap.size) (hp : FunsV w (· < B) vp p) (hT : TabP w) (hR : RowP w) (hf : jaz p) :
  Calls Tryz.prog 39 #[.agg #[vp]] w fun e w' => ∃ n : Nat, e = .returned (.int .i64 (n : Int)) /\ ChkR p n /\ Below w.heap.size w w' := by
 have HCK := hide (fun (W : World) (hW : Below w.heap.size w W) => jsg vp p W B (by have := hW.size; omega) (hT.below hW hT.1) (hp.keep (up hW hB) (fun _ h => h)) hf)
 have HMI := hide (fun (W : World) (hW : Below w.heap.size w W) (h : jad p = true) => kmis_any p vp W B (by have := hW.size; omega) (hp.keep (up hW hB) (fun _ h => h)) (hR.below hW hR.1) (fitOk_of h))
 have HAU := hide (fun (W : World) (hW : Below w.heap.size w W) (h : jad p = true) => jmb p vp W B (by have := hW.size; omega) (hp.keep (up hW hB) (fun _ h => h)) (hT.below hW hT.1) (jkw h) (jmy h hf))
 have HAS := hide (fun (W : World) (hW : Below w.heap.size w W) (h : jad p = true) => jmc p vp W B (by have := hW.size; omega) (hp.keep (up hW hB) (fun _ h => h)) (hT.below hW hT.1) (jkw h) (jmy h hf))
 obtain ⟨Ap, cp, rfl, hcp, hmp⟩ := hp.open'
 obtain ⟨lp, hlp⟩ := zl p.length
 rw [hlp] at HCK HMI HAU HAS
 rw [hlp]
 clear hp hT hR hf hlp hcp hmp
 obtain ⟨b4, hb4⟩ := zl (jad p)
 obtain ⟨b6, hb6⟩ := zl (misB p)
 cases b4
 ·have HP := hide hb4
  have hc : jef p = 5 := by unfold jef; rw [hb4]; rfl
  rw [hc] at HCK
  clear hb4 hb6 hc HMI HAU HAS
  go_enter Tryz.func39, Tryz.ntmps39
  go_upto_region 1 with (fail)
  obtain ⟨w1, hw1⟩ := zr (w.alloc (.cells #[.slice Ap lp cp] 24))
  obtain ⟨h5, hh5⟩ := zl w.heap.size
  have HX0 := zx1 hw1 hh5
  have HB1 := zb1 hw1
  have w1s := HB1.out.size
  have w1z := zs1 hw1 hh5
  have HK0 := zk1 HX0
  have lHX0 := HX0.out.lt
  have h5g : w.heap.size <= h5 := by omega
  rw [<- hw1, hh5]
  clear hw1 hh5
  have p0 := HK0.out w1 (Below.refl _ _)
  go_wp2_with (first
  | (go_at_call 64; (with_reducible refine (HCK.out w1 HB1.out).mono ?_); rintro e w2 ⟨rfl, hb2⟩; have HB2 := hide (HB1.out.trans (hb2.mono HB1.out.size)); have p2 := HK0.out w2 hb2; have HQ2 := hide hb2; clear hb2)
  | (go_at_call 65; (with_reducible refine (HMI.out w2 HB2.out).mono ?_); rintro e w3 ⟨rfl, hb3⟩; have HB3 := hide (HB2.out.trans (hb3.mono HB2.out.size)); have HQ3 := hide (HQ2.out.trans (hb3.mono HQ2.out.size)); have p3 := HK0.out w3 HQ3.out; clear hb3)
  | (go_at_call 66; (with_reducible refine (HAU.out w3 HB3.out).mono ?_); rintro e w4 ⟨R4, rfl, hr4, hb4⟩; have HR4 := hide hr4; have HB4 := hide (HB3.out.trans (hb4.mono HB3.out.size)); have HQ4 := hide (HQ3.out.trans (hb4.mono HQ3.out.size)); have p4 := HK0.out w4 HQ4.out; clear hb4 hr4; cases R4)
  | (go_at_call 66; (with_reducible refine (HAS.out w4 HB4.out).mono ?_); rintro e w5 ⟨R5, rfl, hr5, hb5⟩; have HR5 := hide hr5; have HB5 := hide (HB4.out.trans (hb5.mono HB4.out.size)); clear hb5 hr5; cases R5))
  go_ret
  exact ⟨5, rfl, .inl ⟨HP.out, rfl⟩, HB2.out⟩
 have HP := hide hb4
 have hc : jef p = 0 := by unfold jef; rw [hb4]; rfl
 rw [hc] at HCK
 have HMI := hide (fun W hW => HMI.out W hW hb4)
 have HAU := hide (fun W hW => HAU.out W hW hb4)
 have HAS := hide (fun W hW => HAS.out W hW hb4)
 rw [hb6] at HMI
 have HQ := hide hb6
 clear hb4 hb6 hc
 cases b6
 all_goals
  go_enter Tryz.func39, Tryz.ntmps39
  go_upto_region 1 with (fail)
  obtain ⟨w1, hw1⟩ := zr (w.alloc (.cells #[.slice Ap lp cp] 24))
  obtain ⟨h5, hh5⟩ := zl w.heap.size
  have HX0 := zx1 hw1 hh5
  have HB1 := zb1 hw1
  have w1s := HB1.out.size
  have w1z := zs1 hw1 hh5
  have HK0 := zk1 HX0
  have lHX0 := HX0.out.lt
  have h5g : w.heap.size <= h5 := by omega
  rw [<- hw1, hh5]
  clear hw1 hh5
  have p0 := HK0.out w1 (Below.refl _ _)
  go_wp2_with (first
  | (go_at_call 64; (with_reducible refine (HCK.out w1 HB1.out).mono ?_); rintro e w2 ⟨rfl, hb2⟩; have HB2 := hide (HB1.out.trans (hb2.mono HB1.out.size)); have p2 := HK0.out w2 hb2; have HQ2 := hide hb2; clear hb2)
  | (go_at_call 65; (with_reducible refine (HMI.out w2 HB2.out).mono ?_); rintro e w3 ⟨rfl, hb3⟩; have HB3 := hide (HB2.out.trans (hb3.mono HB2.out.size)); have HQ3 := hide (HQ2.out.trans (hb3.mono HQ2.out.size)); have p3 := HK0.out w3 HQ3.out; clear hb3)
  | (go_at_call 66; (with_reducible refine (HAU.out w3 HB3.out).mono ?_); rintro e w4 ⟨R4, rfl, hr4, hb4⟩; have HR4 := hide hr4; have HB4 := hide (HB3.out.trans (hb4.mono HB3.out.size)); have HQ4 := hide (HQ3.out.trans (hb4.mono HQ3.out.size)); have p4 := HK0.out w4 HQ4.out; clear hb4 hr4; cases R4)
  | (go_at_call 66; (with_reducible refine (HAS.out w4 HB4.out).mono ?_); rintro e w5 ⟨R5, rfl, hr5, hb5⟩; have HR5 := hide hr5; have HB5 := hide (HB4.out.trans (hb5.mono HB4.out.size)); clear hb5 hr5; cases R5))
  all_goals
   go_ret
   first
    | exact ⟨6, rfl, .inr (.inl ⟨HP.out, HQ.out, rfl⟩), HB3.out⟩
    | exact ⟨7, rfl, .inr (.inr (.inl ⟨HP.out, HQ.out, HR4.out.1 (by simp), rfl⟩)), HB4.out⟩
    | exact ⟨8, rfl, .inr (.inr (.inr (.inl ⟨HP.out, HQ.out, (fun h => by have := HR4.out.2 h; cases this), HR5.out.1 (by simp), rfl⟩))), HB5.out⟩
    | exact ⟨0, rfl, .inr (.inr (.inr (.inr ⟨HP.out, HQ.out, (fun h => by have := HR4.out.2 h; cases this), (fun h => by have := HR5.out.2 h; cases this), rfl⟩))), HB5.out⟩
def askL (st : Bool) (f : FunV) (l : List InsV) (s : KSt) : Bool := (List.range l.length).any fun j => match l[j]? with
 | some x => (jas x).any (fun v => je0 st f v (thrW f (l.take j) s))
 | none => false
theorem askL_iff {st : Bool} {f : FunV} {l : List InsV} {s : KSt} : jpf st f l s ↔ askL st f l s = true := by
 unfold jpf askL
 rw [List.any_eq_true]
 constructor
 ·rintro ⟨j, x, hx, v, hv, hf⟩
  refine ⟨j, List.mem_range.2 (List.getElem?_eq_some_iff.1 hx).1, ?_⟩
  rw [hx]
  exact List.any_eq_true.2 ⟨v, hv, hf⟩
 ·rintro ⟨j, -, h⟩
  cases hx : l[j]? with
  | none => rw [hx] at h; cases h
  | some x =>
   rw [hx] at h
   obtain ⟨v, hv, hf⟩ := List.any_eq_true.1 h
   exact ⟨j, x, hx, v, hv, hf⟩
theorem jqj {f : FunV} (hok : jbn f) (h : nxt f 0 = []) {b : Nat} (hp : Pth f 0 (b : Int)) : b = 0 :=
 Pth.ind hok (fun b => b = 0) hp rfl fun x c _ hx hc => by subst hx; rw [h] at hc; cases hc
theorem jrn {f : FunV} (hok : jbn f) (h : nxt f 0 = []) (k : Bool) (m : Nat) : kAt f 0 k m ↔ kIni f k m := by
 constructor
 ·exact (jdy f).zero k m
 ·intro hi
  refine ⟨fun _ => kIni f, ⟨fun _ _ h => h, fun b c hb hc => ?_⟩, hi⟩
  rw [jqj hok h hb, h] at hc
  cases hc
theorem kat_ini {f : FunV} (hk : KOk f) (h : nxt f 0 = []) {s : KSt} (hs : KAt f 0 s) : s = iniW f := by
 rcases hs with ⟨-, h2, h3⟩ | ⟨h1, -⟩
 ·exact h2.ext (jh1 hk) fun k m => (h3 k m).trans ((jrn hk.flow h k m).trans (jf8 hk k m).symm)
 ·exact absurd (Pth.refl _ _) h1
theorem kat_ini' {f : FunV} (hk : KOk f) (h : nxt f 0 = []) : KAt f 0 (iniW f) :=
 .inl ⟨Pth.refl _ _, jh1 hk, fun k m => (jf8 hk k m).trans (jrn hk.flow h k m).symm⟩
theorem jll {st : Bool} {f : FunV} {l : List InsV} (hk : KOk f) (hb : f.blocks = [l]) (hn : nxt f 0 = []) : jlp st [f] ↔ askL st f l (iniW f) = true := by
 rw [<- askL_iff]
 constructor
 ·rintro ⟨g, hg, b, l', s, hl, hp, hs, ha⟩
  rw [List.mem_singleton] at hg
  subst hg
  obtain rfl := jqj hk.flow hn hp
  rw [hb] at hl
  simp at hl
  subst hl
  rwa [kat_ini hk hn hs] at ha
 ·intro h
  exact ⟨f, List.mem_singleton.2 rfl, 0, l, iniW f, by rw [hb]; rfl, Pth.refl _ _, kat_ini' hk hn, h⟩
def CloZ (f : FunV) (z : Int) (m : List Bool) : Prop := ∀ x : Nat, metB m x = true -> ∀ v ∈ nxt f x, v ≠ z -> metB m v = true
structure WGZ (f : FunV) (z : Int) (a : Nat) (m : List Bool) : Prop where
 len : m.length = f.blocks.length
 snd : ∀ P : Int -> Prop, P a -> (∀ x : Nat, P x -> ∀ v ∈ nxt f x, v ≠ z -> P v) -> ∀ x : Nat, metB m x = true -> P x
 met : metB m a = true
def WIZ (f : FunV) (z : Int) (a t : Nat) (m : List Bool) : Prop := WGZ f z a m /\ (CloZ f z m \/ m.count false + t + 1 <= f.blocks.length)
def WJZ (f : FunV) (z : Int) (a : Nat) (m0 : List Bool) (i : Nat) (m : List Bool) : Prop :=
 WGZ f z a m /\ (m.count false < m0.count false \/ (m = m0 /\ ∀ x : Nat, x < i -> metB m0 x = true -> ∀ v ∈ nxt f x, v ≠ z -> metB m0 v = true)) /\ (CloZ f z m0 -> m = m0)
def WKZ (f : FunV) (z : Int) (a : Nat) (m0 : List Bool) (i k : Nat) (m : List Bool) : Prop :=
 WJZ f z a m0 i m /\ (m = m0 -> metB m0 i = true -> ∀ v ∈ (nxt f i).take k, v ≠ z -> metB m0 v = true)
theorem jpj {f : FunV} {z : Int} {a : Nat} (ha : a < f.blocks.length) : WIZ f z a 0 ((List.replicate f.blocks.length false).set a true) := by
 have hf : metB (List.replicate f.blocks.length false) (a : Int) = false := jne _ _
 have hc := jid (m := List.replicate f.blocks.length false) (c := (a : Int)) (by simpa using ha) hf
 have hm : ∀ x : Int, 0 <= x -> (metB (meet (List.replicate f.blocks.length false) (a : Int)) x = true ↔ metB (List.replicate f.blocks.length false) x = true \/ x = a) := fun x hx => jnd (by omega) (by simpa using ha) hx
 have e : meet (List.replicate f.blocks.length false) (a : Int) = (List.replicate f.blocks.length false).set a true := rfl
 rw [e] at hc hm
 refine ⟨⟨by simp, fun P hP _ x hx => ?_, (hm a (by omega)).2 (.inr rfl)⟩, .inr ?_⟩
 ·rcases (hm x (by omega)).1 hx with h | h
  ·rw [jne] at h; cases h
  ·rw [h]; exact hP
 ·rw [List.count_replicate_self] at hc; omega
theorem jph {f : FunV} {z : Int} {a : Nat} {m : List Bool} (h : WGZ f z a m) : WJZ f z a m 0 m := ⟨h, .inr ⟨rfl, fun x hx => by omega⟩, fun _ => rfl⟩
theorem jpg {f : FunV} {z : Int} {a i : Nat} {m0 m : List Bool} (h : WJZ f z a m0 i m) : WKZ f z a m0 i 0 m := ⟨h, fun _ _ v hv => by simp at hv⟩
theorem wkZ_skip {f : FunV} {z : Int} {a i k y : Nat} {m0 m : List Bool} (h : WKZ f z a m0 i k m) (hy : (nxt f i)[k]? = some (y : Int)) (hyz : (y : Int) = z) : WKZ f z a m0 i (k + 1) m := by
 refine ⟨h.1, fun e hi0 v hv hvz => ?_⟩
 rw [jhu hy, List.mem_append] at hv
 rcases hv with hv | hv
 ·exact h.2 e hi0 v hv hvz
 ·simp at hv; subst hv; exact absurd hyz hvz
theorem wkZ_step {f : FunV} {z : Int} {a i k y : Nat} {m0 m : List Bool} (h : WKZ f z a m0 i k m) (hi : metB m i = true) (hy : (nxt f i)[k]? = some (y : Int)) (hyl : y < f.blocks.length) (hyz : ¬ (y : Int) = z) : WKZ f z a m0 i (k + 1) (m.set y true) := by
 obtain ⟨⟨hg, hd, hc⟩, hk⟩ := h
 have hyn : (y : Int) ∈ nxt f i := List.mem_of_getElem? hy
 by_cases hm : metB m y = true
 ·rw [meet_old hm]
  refine ⟨⟨hg, hd, hc⟩, fun e hi0 v hv hvz => ?_⟩
  rw [jhu hy, List.mem_append] at hv
  rcases hv with hv | hv
  ·exact hk e hi0 v hv hvz
  ·simp at hv; subst hv; subst e; exact hm
 ·have hmf := Bool.eq_false_iff.2 hm
  have hl : (y : Int).toNat < m.length := by rw [hg.len]; simpa using hyl
  have hcm := jid hl hmf
  have hmm : ∀ x : Int, 0 <= x -> (metB (meet m (y : Int)) x = true ↔ metB m x = true \/ x = y) := fun x hx => jnd (by omega) (by have := hg.len; omega) hx
  have e : meet m (y : Int) = m.set y true := rfl
  rw [e] at hcm hmm
  have hle : m.count false <= m0.count false := by
   rcases hd with h | ⟨rfl, -⟩
   ·omega
   ·omega
  refine ⟨⟨⟨by rw [List.length_set, hg.len], fun P hP hs x hx => ?_, (hmm a (by omega)).2 (.inl hg.met)⟩, .inl (by omega), fun hcl => ?_⟩, fun e2 => ?_⟩
  ·rcases (hmm x (by omega)).1 hx with h | h
   ·exact hg.snd P hP hs x h
   ·rw [h]; exact hs i (hg.snd P hP hs i hi) _ hyn hyz
  ·have e0 := hc hcl
   subst e0
   exact absurd (hcl i hi _ hyn hyz) hm
  ·rw [e2] at hcm; omega
theorem wkZ_end {f : FunV} {z : Int} {a i k : Nat} {m0 m : List Bool} (h : WKZ f z a m0 i k m) (hk : (nxt f i).length <= k \/ metB m i = false) : WJZ f z a m0 (i + 1) m := by
 obtain ⟨⟨hg, hd, hc⟩, hkk⟩ := h
 refine ⟨hg, ?_, hc⟩
 rcases hd with hd | ⟨rfl, hd⟩
 ·exact .inl hd
 ·refine .inr ⟨rfl, fun x hx hm v hv hvz => ?_⟩
  by_cases hxi : x < i
  ·exact hd x hxi hm v hv hvz
  ·obtain rfl : x = i := by omega
   rcases hk with hk | hk
   ·exact hkk rfl hm v (by rw [List.take_of_length_le hk]; exact hv) hvz
   ·rw [hk] at hm; cases hm
theorem wjZ_end {f : FunV} {z : Int} {a t i : Nat} {m0 m : List Bool} (h0 : WIZ f z a t m0) (h : WJZ f z a m0 i m) (hi : f.blocks.length <= i) : WIZ f z a (t + 1) m := by
 obtain ⟨hg, hd, hc⟩ := h
 refine ⟨hg, ?_⟩
 rcases h0.2 with h | h
 ·rw [hc h]; exact .inl h
 ·rcases hd with hd | ⟨rfl, hd⟩
  ·exact .inr (by omega)
  ·refine .inl fun x hx v hv hvz => hd x ?_ hx v hv hvz
   have := jr2 hx
   have := hg.len
   omega
theorem wiZ_end {f : FunV} {z : Int} {a t : Nat} {m : List Bool} (h : WIZ f z a t m) (ht : f.blocks.length <= t) : WGZ f z a m /\ CloZ f z m := by
 refine ⟨h.1, ?_⟩
 rcases h.2 with h | h
 ·exact h
 ·omega
def WTZr (w6 : World) (bm : Nat) (f : FunV) (z : Int) (a t : Nat) (wr : World) : Prop := ∃ m, MB wr bm m /\ Below bm w6 wr /\ WIZ f z a t m
def WIZr (w6 : World) (bm : Nat) (f : FunV) (z : Int) (a : Nat) (m0 : List Bool) (i : Nat) (wr : World) : Prop := ∃ m, MB wr bm m /\ Below bm w6 wr /\ WJZ f z a m0 i m
def WKZr (w8 : World) (bm : Nat) (f : FunV) (z : Int) (a : Nat) (m0 : List Bool) (i k : Nat) (wr : World) : Prop := ∃ m, MB wr bm m /\ But bm w8 wr /\ WKZ f z a m0 i k m
theorem jfx (vk vb vs : Value) (f : FunV) (z : Int) (a : Nat) (haz : (a : Int) ≠ z) (w : World) (B : Nat) (hB : B <= w.heap.size) (hi : FunI w (· < B) vk vb vs f) (hok : jbn f) (ha : a < f.blocks.length) :
  Calls Tryz.prog 29 #[.agg #[vk, vb, .int .i64 f.params, .int .i64 f.result, vs], .int .i64 (a : Int), .int .i64 z] w fun e w' => ∃ bm m, e = .returned (.slice (some ⟨bm, 0, none⟩) f.blocks.length f.blocks.length) /\ w.heap.size <= bm /\ MB w' bm m /\ (WGZ f z a m /\ CloZ f z m) /\ Below w.heap.size w w' := by
 obtain ⟨Ak, ck, rfl, hck, hmk⟩ := hi.1.open'
 obtain ⟨Ab, cb, rfl, hcb, hmb⟩ := hi.2.1.open'
 obtain ⟨As, cs, rfl, hcs, hms⟩ := hi.2.2.1.open'
 have HNX := hide (fun (W : World) (hW : Below w.heap.size w W) (k : Nat) (hk : k < f.blocks.length) => (show Calls Tryz.prog 53 #[.agg #[.slice Ak f.kinds.length ck, .slice Ab f.base.length cb, .int .i64 f.params, .int .i64 f.result, .slice As f.blocks.length cs], .int .i64 (k : Int)] W fun e w' => ∃ A c, e = .returned (.slice A (nxt f k).length c) /\ Sl w' w'.heap.size .i64 A (nxt f k) /\ (nxt f k).length <= c /\ c <= 2 /\ (∀ b o, A = some ⟨b, o, none⟩ -> W.heap.size <= b) /\ Below W.heap.size W w' by
  have h := jhx _ _ _ f (k : Int) W B (by have := hW.size; omega) (hi.keep (up hW hB) (fun _ h => h)) hok
  rw [jf1 hk] at h
  exact h))
 have hls40 := hok.1
 have hmake : ∀ W : World, (Instr.makeSlice 77 (.int .i64 (f.blocks.length : Int)) (.int .i64 (f.blocks.length : Int))).run Tryz.prog W = .ok (.slice (some ⟨W.heap.size, 0, none⟩) f.blocks.length f.blocks.length) (W.alloc (.cells (madeCells (Value.bool false).cells (f.blocks.length * 1)) 4)) := fun W => ji6 77 4 Tryz.underlying77 jrv (by omega) f.blocks.length (by omega) W
 obtain ⟨mc, hmc⟩ := zl (madeCells (Value.bool false).cells (f.blocks.length * 1))
 rw [hmc] at hmake
 have HMC := hide (show mc = ((List.replicate f.blocks.length false).map Value.bool).toArray by rw [<- hmc]; exact jhj _)
 have HST := hide (jpj (z := z) ha)
 have HRNG := hide hok.2.2
 obtain ⟨ls, hls⟩ := zl f.blocks.length
 have HLS := hide hls
 rw [hls] at HNX hls40 hmake HMC HST ha hcs ⊢
 generalize f.kinds.length = lk, f.base.length = lb, f.params = fp, f.result = fr at *
 clear hi hok hls hmc
 go_enter Tryz.func29, Tryz.ntmps29
 go_upto_region 1 with (fail)
 obtain ⟨w5, hw5⟩ := zr (w.alloc (.cells #[.slice Ak lk ck, .slice Ab lb cb, .int .i64 fp, .int .i64 fr, .slice As ls cs] 52))
 obtain ⟨h5, hh5⟩ := zl w.heap.size
 have HX5 := zx1 hw5 hh5
 have HB5 := zb1 hw5
 have h5w : h5 <= w.heap.size := by omega
 rw [<- hw5, hh5]
 clear hw5 hh5
 have l5 := HX5.out.lt
 have c4 := (HX5.out.cell 4 (v := .slice As ls cs) rfl).1
 go_upto_region 2 with (fail)
 obtain ⟨w6, hw6⟩ := zr (w5.alloc (.cells mc 4))
 obtain ⟨bm, hbm⟩ := zl w5.heap.size
 have HM6 := hide (show MB w6 bm (List.replicate ls false) by unfold MB; rw [hw6, <- hbm, <- HMC.out]; exact Box.new w5 _ _)
 have HX6 := hide (show Box w6 h5 #[.slice Ak lk ck, .slice Ab lb cb, .int .i64 fp, .int .i64 fr, .slice As ls cs] 52 by rw [hw6]; exact HX5.out.alloc _)
 have HB6 := hide (show Below w.heap.size w w6 by rw [hw6]; exact HB5.out.alloc HB5.out.size _)
 have hs6 : w6.heap.size = bm + 1 := by rw [hw6, World.size_alloc, hbm]
 have HS6 := hide hs6
 have lb6 : bm < w6.heap.size := by omega
 have hwbm : w.heap.size <= bm := by rw [<- hbm]; exact HB5.out.size
 have h5bm : h5 < bm := by omega
 rw [<- hw6, hbm]
 clear hw6 hbm c4 l5 hmake HMC hs6
 have l6 : h5 < w6.heap.size := by omega
 have c4 := (HX6.out.cell 4 (v := .slice As ls cs) rfl).1
 have q1 : ((a : Int) == z) = false := by simpa using haz
 have q2 : ¬ ls <= a := by omega
 have q3 : (0 : Int) <= (a : Int) := by omega
 have q4 : (a : Int) < (ls : Int) := by omega
 have q5 : ¬ (ls : Int) <= (a : Int) := by omega
 obtain ⟨mf6, mm6⟩ := (HM6.out.cell (b := a) (by simpa using ha))
 have HT6 := hide (show WTZr w6 bm f z a 0 (w6.setCell ⟨bm, a, none⟩ (.bool true)) from ⟨_, HM6.out.set a, (But.set (But.refl bm w6)).below (Below.refl _ _) (Nat.le_refl _) (by omega), HST.out⟩)
 go_wp2
 go_loopw [8] (fun i wr => ∃ t : Nat, t <= ls /\ i = .int .i64 t /\ Hid (WTZr w6 bm f z a t wr)) (fun i _ => ls - (intOf i).toNat)
 case atStart => exact ⟨0, Nat.zero_le _, rfl, HT6⟩
 case round =>
  obtain ⟨t, ht, rfl, hin⟩ := hrel
  obtain ⟨m0, hm0, hb0, hI⟩ := hin.out
  obtain ⟨wo, rfl⟩ := zr wr
  have HXO := hide (HX6.out.belowB hb0 h5bm)
  have c4 := (HXO.out.cell 4 (v := .slice As ls cs) rfl).1
  have lxo := HXO.out.lt
  by_cases hlt : t < ls
  case neg =>
   have HE := hide (wiZ_end hI (by have := HLS.out; omega))
   have HBE := hide (HB6.out.trans (hb0.mono hwbm))
   have HME := hide hm0
   clear hin hI hb0 hm0
   go_wp2
   go_ret
   exact ⟨_, _, rfl, hwbm, HME.out, HE.out, HBE.out⟩
  have HI0 := hide hI
  have HJ0 := hide (show WIZr w6 bm f z a m0 0 wo from ⟨m0, hm0, hb0, jph hI.1⟩)
  clear hin hI hb0 hm0
  go_wp2
  go_loopw [9] (fun i wr => ∃ i' : Nat, i' <= ls /\ i = .int .i64 i' /\ Hid (WIZr w6 bm f z a m0 i' wr)) (fun i _ => ls - (intOf i).toNat)
  case atStart => exact ⟨0, Nat.zero_le _, rfl, HJ0⟩
  case round =>
   obtain ⟨i, hi, rfl, hin⟩ := hrel
   obtain ⟨m, hm, hb, hJ⟩ := hin.out
   obtain ⟨wi, rfl⟩ := zr wr
   have hsz := hb.size
   have HXI := hide (HX6.out.belowB hb h5bm)
   have c0 := (HXI.out.cell 0 (v := .slice Ak lk ck) rfl).1
   have c1 := (HXI.out.cell 1 (v := .slice Ab lb cb) rfl).1
   have c2 := (HXI.out.cell 2 (v := .int .i64 fp) rfl).1
   have c3 := (HXI.out.cell 3 (v := .int .i64 fr) rfl).1
   have c4 := (HXI.out.cell 4 (v := .slice As ls cs) rfl).1
   have lxi := HXI.out.lt
   by_cases hli : i < ls
   case neg =>
    have HT := hide (show WTZr w6 bm f z a (t + 1) wi from ⟨m, hm, hb, wjZ_end HI0.out hJ (by have := HLS.out; omega)⟩)
    clear hin hJ hb hm
    go_wp2
    go_roundw
    case rel => exact ⟨t + 1, by omega, by go_num, HT⟩
    case measure => simp [intOf]; omega
   have HMI := hide hm
   have HBI := hide hb
   have HJI := hide hJ
   clear hin hJ hb hm
   go_wp2_with (go_at_call 53; refine (HNX.out wi (HB6.out.trans (HBI.out.mono hwbm)) i hli).mono ?_; rintro e w8 ⟨A8, k8, rfl, hs8, hl8, hm8, ha8, hb8⟩; have hz8 := hb8.size; have HS8 := hide hs8; have HB8 := hide (HBI.out.trans (hb8.mono (show bm <= wi.heap.size by omega))); have HM8 := hide (show MB w8 bm m from Box.below HMI.out hb8); have HA8 := hide (show ∀ b o, A8 = some ⟨b, o, none⟩ -> b ≠ bm from fun b o e => by have := ha8 b o e; omega); clear hs8 ha8 hb8)
   have HK0 := hide (show WKZr w8 bm f z a m0 i 0 w8 from ⟨m, HM8.out, But.refl _ _, jpg HJI.out⟩)
   have HR := hide (HRNG.out i)
   rw [HLS.out] at HR
   have hnl := jfl f i
   have HWS := hide (fun (k y : Nat) (m0 m : List Bool) => @wkZ_step f z a i k y m0 m)
   have HWK := hide (fun (k : Nat) (m0 m : List Bool) (h : WKZ f z a m0 i k m) {y : Nat} (hy : (nxt f i)[k]? = some (y : Int)) => @wkZ_skip f z a i k y m0 m h hy)
   have HWE := hide (fun (k : Nat) (m0 m : List Bool) => @wkZ_end f z a i k m0 m)
   obtain ⟨nx, hnx⟩ := zl (nxt f i)
   rw [hnx] at HR hnl HWS HWE HWK HS8 hl8 ⊢
   obtain ⟨n8, hn8⟩ := zl nx.length
   have HN8 := hide hn8
   rw [hn8] at hnl hl8 ⊢
   clear hnx hn8 c0 c1 c2 c3 c4
   go_loopw [11] (fun i' wr => ∃ k : Nat, k <= n8 /\ i' = .int .i64 k /\ Hid (WKZr w8 bm f z a m0 i k wr)) (fun i' _ => n8 - (intOf i').toNat)
   case atStart => exact ⟨0, Nat.zero_le _, rfl, HK0⟩
   case round =>
    obtain ⟨k, hk, rfl, hin⟩ := hrel
    obtain ⟨mk, hmk, hbk, hK⟩ := hin.out
    have hbs := hbk.size
    have hml : mk.length = ls := by have := hK.1.1.len; have := HLS.out; omega
    have HML := hide hml
    have mci := (hmk.cell (b := i) (by omega)).1
    have lbm : bm < wr.heap.size := by omega
    clear hml
    by_cases hmi : metB mk (i : Int) = true
    ·rw [hmi] at mci
     by_cases hlk : k < n8
     ·obtain ⟨y, hy⟩ : ∃ y, nx[k]? = some y := ⟨_, List.getElem?_eq_getElem (by have := HN8.out; omega)⟩
      obtain ⟨hy0, hyl⟩ := HR.out y (List.mem_of_getElem? hy)
      obtain ⟨yn, rfl⟩ : ∃ n : Nat, y = n := ⟨y.toNat, by omega⟩
      have hynl : yn < ls := by omega
      obtain ⟨b8, o8, rfl, hb8, hc8⟩ := (hbk.sl HS8.out (Nat.le_refl _) HA8.out) (by have := HN8.out; omega)
      have cj := hc8 k (by have := HN8.out; omega)
      rw [List.getD_eq_getElem?_getD, hy] at cj
      simp only [Option.getD_some] at cj
      have hb8s : b8 < wr.heap.size := by omega
      obtain ⟨my, fy⟩ := hmk.cell (b := yn) (by have := HML.out; omega)
      have HSK := hide (HWK.out _ _ _ hK hy)
      by_cases hyz : (yn : Int) = z
      ·have HNXT := hide (show WKZr w8 bm f z a m0 i (k + 1) wr from ⟨_, hmk, hbk, HSK.out hyz⟩)
       have p1 : ((yn : Int) == z) = true := by simpa using hyz
       have p3 : (0 : Int) <= (yn : Int) := by omega
       have p4 : (yn : Int) < (ls : Int) := by omega
       clear hc8 hy hmk hbk hK hin hy0 hyl hmi hyz
       go_wp2
       go_roundw
       case rel => exact ⟨k + 1, by omega, by go_num, HNXT⟩
       case measure => simp [intOf]; omega
      have HNXT := hide (show WKZr w8 bm f z a m0 i (k + 1) (wr.setCell ⟨bm, yn, none⟩ (.bool true)) from ⟨_, hmk.set yn, hbk.set, HWS.out _ _ _ _ hK hmi hy (by have := HLS.out; omega) hyz⟩)
      have p1 : ((yn : Int) == z) = false := by simpa using hyz
      have p3 : (0 : Int) <= (yn : Int) := by omega
      have p4 : (yn : Int) < (ls : Int) := by omega
      clear hc8 hy hmk hbk hK hin hy0 hyl hmi hyz
      go_wp2
      go_roundw
      case rel => exact ⟨k + 1, by omega, by go_num, HNXT⟩
      case measure => simp [intOf]; omega
     have HEN := hide (show WIZr w6 bm f z a m0 (i + 1) wr from ⟨mk, hmk, hbk.below HB8.out (Nat.le_refl _) (by omega), HWE.out _ _ _ hK (.inl (by have := HN8.out; omega))⟩)
     clear hmk hbk hK hin hmi
     go_wp2
     go_roundw
     case rel => exact ⟨i + 1, by omega, by go_num, HEN⟩
     case measure => simp [intOf]; omega
    ·have hmf := Bool.eq_false_iff.2 hmi
     rw [hmf] at mci
     have HEN := hide (show WIZr w6 bm f z a m0 (i + 1) wr from ⟨mk, hmk, hbk.below HB8.out (Nat.le_refl _) (by omega), HWE.out _ _ _ hK (.inr hmf)⟩)
     clear hmk hbk hK hin hmi hmf
     by_cases hlk : k < n8
     all_goals
      go_wp2
      go_roundw
      case rel => exact ⟨i + 1, by omega, by go_num, HEN⟩
      case measure => simp [intOf]; omega
end Go.Proofs.YthbnbaikdcfbmaaGreatDoor
