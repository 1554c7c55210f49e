/- Layer 10: what holds of a run, step by step. No condition. -/
import Derived.Test.YthbnbaikdcfbmaaGreatDoorPmUA
set_option linter.unusedSimpArgs false
set_option linter.unusedVariables false
set_option maxHeartbeats 1000000
namespace Go.Proofs.YthbnbaikdcfbmaaGreatDoor
open Go.RowKit
def VOk (n : Nat) (v : ValV) : Prop := i64R v.n /\ (0 <= v.o /\ v.o <= n) /\ i64R v.a
theorem VOk.zero (n : Nat) : VOk n vZ := ⟨⟨by show (-9223372036854775808 : Int) <= 0; omega, by show (0 : Int) <= 9223372036854775807; omega⟩, ⟨by show (0 : Int) <= 0; omega, by show (0 : Int) <= (n : Int); omega⟩, ⟨by show (-9223372036854775808 : Int) <= 0; omega, by show (0 : Int) <= 9223372036854775807; omega⟩⟩
theorem VOk.up {n m : Nat} {v : ValV} (h : VOk n v) (hm : n <= m) : VOk m v := ⟨h.1, ⟨h.2.1.1, by have := h.2.1.2; omega⟩, h.2.2⟩
structure FrOk (p : List FunV) (n : Nat) (f : FrV) (F : FunV) : Prop where
 fn : p[f.fn]? = some F
 len : f.vars.length = F.kinds.length
 bl : f.bl < F.blocks.length
 pl : f.pl < (jaj F f.bl).length
 vs : ∀ v ∈ f.vars, VOk n v
def FrmA (p : List FunV) (n : Nat) (f : FrV) : Prop := ∃ F, FrOk p n f F
def Waits (p : List FunV) (f : FrV) : Prop := 1 <= f.pl /\ ∃ x, (jaj (jhk p f.fn) f.bl)[f.pl - 1]? = some x /\ x.op = 19 /\ f.want = x.d /\ 0 <= x.d /\ x.d < f.vars.length
structure InvR (p : List FunV) (s : StV) : Prop where
 hp : jap s.heap = true
 hi : ∀ o ∈ s.heap, ∀ z ∈ o.ints, i64R z
 hl : s.heap.length <= s.steps
 el : s.ev.length <= s.steps
 er : ∀ z ∈ s.ev, i64R z
 en : s.en <= 2
 ec : s.en = 2 ↔ s.code ≠ 0
 cc : s.code <= 18
 vr : i64R s.val
 vv : s.en = 1 \/ s.val = 0
 go : s.en = 0 -> ∃ l f, s.stk = l ++ [f] /\ l.length < 60 /\ (∀ g ∈ l, FrmA p s.heap.length g /\ Waits p g) /\ FrmA p s.heap.length f
 sl : s.stk.length <= 60
theorem jl6 {p : List FunV} {n : Nat} {v : List ValV} {i : Int} (h : ∀ u ∈ v, VOk n u) : VOk n (gv v i) := by
 unfold gv
 cases hc : v[i.toNat]? with
 | none => exact VOk.zero n
 | some u => exact h u (List.mem_of_getElem? hc)
theorem jmw (z : Int) : i64R (wrap64 z) := by unfold i64R wrap64; omega
theorem getD_R {l : List Int} {k : Nat} (h : ∀ z ∈ l, i64R z) : i64R (l.getD k 0) := by
 rw [List.getD]
 cases hc : l[k]? with
 | none => exact ⟨by simp, by simp⟩
 | some z => exact h z (List.mem_of_getElem? hc)
theorem je8 {h : List ObjV} {obj : Int} (h1 : 1 <= obj) (h2 : obj <= h.length) : objO h obj ∈ h := List.mem_of_getElem? (jj0 h1 h2)
theorem numR_R {a b : ValV} {x : InsV} (hx : i64R x.n) : i64R (numR a b x) := by
 unfold numR
 repeat' (first | exact hx | exact jmw _ | exact ⟨by omega, by omega⟩ | split)
theorem load_R {h : List ObjV} {o n : Int} (hi : ∀ x ∈ h, ∀ z ∈ x.ints, i64R z) : i64R (jbb h o n).1 := by
 unfold jbb fldR
 split
 ·rename_i ha
  obtain ⟨-, h1, h2⟩ := atN_zero.1 ha
  split
  ·exact getD_R (hi _ (je8 h1 h2))
  ·exact ⟨by simp, by simp⟩
 ·exact ⟨by simp, by simp⟩
theorem ref_R {h : List ObjV} {o n : Int} (hr : jap h = true) : 0 <= (refR h o n).1 /\ (refR h o n).1 <= h.length := by
 unfold refR fldR
 split
 ·rename_i ha
  obtain ⟨-, h1, h2⟩ := atN_zero.1 ha
  split
  ·rename_i hn
   have hm := (rightB_iff.1 hr) _ (je8 h1 h2)
   rw [List.getD]
   cases hc : (objO h o).refs[n.toNat]? with
   | none => simp
   | some z => simpa using hm.2.2 z (List.mem_of_getElem? hc)
  ·simp
 ·simp
theorem jh7 (h : List ObjV) (o n : Int) (hr : jap h = true) (ho : 0 <= o /\ o <= h.length) : (jbb h o n).2 = 0 \/ (jbb h o n).2 = 14 \/ (jbb h o n).2 = 15 := by
 unfold jbb fldR atN
 rw [if_pos hr]
 by_cases h0 : o = 0
 ·rw [if_pos h0]; simp
 ·rw [if_neg h0, if_pos (show 1 <= o /\ o <= (h.length : Int) from ⟨by omega, by omega⟩)]
  simp
  split <;> simp
theorem jnt (h : List ObjV) (o n : Int) (hr : jap h = true) (ho : 0 <= o /\ o <= h.length) : (refR h o n).2 = 0 \/ (refR h o n).2 = 14 \/ (refR h o n).2 = 15 := by
 unfold refR fldR atN
 rw [if_pos hr]
 by_cases h0 : o = 0
 ·rw [if_pos h0]; simp
 ·rw [if_neg h0, if_pos (show 1 <= o /\ o <= (h.length : Int) from ⟨by omega, by omega⟩)]
  simp
  split <;> simp
structure HpOk (n : Nat) (h : List ObjV) : Prop where
 hp : jap h = true
 hi : ∀ o ∈ h, ∀ z ∈ o.ints, i64R z
 len : h.length = n
theorem jhy {h : List ObjV} {k : Nat} {o : ObjV} (hr : jap h = true) (h1 : o.refs.length <= 8) (h2 : o.ints.length <= 8) (h3 : ∀ z ∈ o.refs, 0 <= z /\ z <= h.length) : jap (h.set k o) = true := by
 rw [rightB_iff]
 intro x hx
 rw [List.length_set]
 rcases List.mem_or_eq_of_mem_set hx with hx | rfl
 ·exact (rightB_iff.1 hr) x hx
 ·exact ⟨h1, h2, h3⟩
theorem jjt {h : List ObjV} {o n v : Int} (hr : jap h = true) (hi : ∀ x ∈ h, ∀ z ∈ x.ints, i64R z) (ho : 0 <= o /\ o <= h.length) (hv : i64R v) :
  HpOk h.length (jb6 h o n v).1 /\ ((jb6 h o n v).2 = 0 \/ (jb6 h o n v).2 = 14 \/ (jb6 h o n v).2 = 15) := by
 unfold jb6
 split
 ·rename_i hl
  obtain ⟨ha, h1, h2⟩ := loadR_ok.1 hl
  obtain ⟨-, h3, h4⟩ := atN_zero.1 ha
  have hm := je8 h3 h4
  have h8 := (rightB_iff.1 hr) _ hm
  refine ⟨⟨?_, fun x hx z hz => ?_, ?_⟩, .inl rfl⟩
  ·exact jhy hr h8.1 (by rw [List.length_set]; exact h8.2.1) h8.2.2
  ·unfold putN at hx
   rcases List.mem_or_eq_of_mem_set hx with hx | rfl
   ·exact hi x hx z hz
   ·rcases List.mem_or_eq_of_mem_set hz with hz | rfl
    ·exact hi _ hm z hz
    ·exact hv
  ·unfold putN; rw [List.length_set]
 ·rename_i hl
  refine ⟨⟨hr, hi, rfl⟩, ?_⟩
  rcases jh7 h o n hr ho with e | e | e
  ·exact absurd e hl
  ·exact .inr (.inl e)
  ·exact .inr (.inr e)
theorem link_ok' {h : List ObjV} {o n t : Int} (hr : jap h = true) (hi : ∀ x ∈ h, ∀ z ∈ x.ints, i64R z) (ho : 0 <= o /\ o <= h.length) (ht : 0 <= t /\ t <= h.length) :
  HpOk h.length (jcr h o n t).1 /\ ((jcr h o n t).2 = 0 \/ (jcr h o n t).2 = 14 \/ (jcr h o n t).2 = 15) := by
 unfold jcr
 split
 ·rename_i ha
  rw [if_pos (rfB_iff.2 ht)]
  split
  ·rename_i hl
   obtain ⟨-, h1, h2⟩ := refR_ok.1 hl
   obtain ⟨-, h3, h4⟩ := atN_zero.1 ha
   have hm := je8 h3 h4
   have h8 := (rightB_iff.1 hr) _ hm
   refine ⟨⟨?_, fun x hx z hz => ?_, ?_⟩, .inl rfl⟩
   ·refine jhy hr (by rw [List.length_set]; exact h8.1) h8.2.1 (fun z hz => ?_)
    rcases List.mem_or_eq_of_mem_set hz with hz | rfl
    ·exact h8.2.2 z hz
    ·exact ht
   ·unfold putR at hx
    rcases List.mem_or_eq_of_mem_set hx with hx | rfl
    ·exact hi x hx z hz
    ·exact hi _ hm z hz
   ·unfold putR; rw [List.length_set]
  ·rename_i hl
   refine ⟨⟨hr, hi, rfl⟩, ?_⟩
   rcases jnt h o n hr ho with e | e | e
   ·exact absurd e hl
   ·exact .inr (.inl e)
   ·exact .inr (.inr e)
 ·rename_i ha
  refine ⟨⟨hr, hi, rfl⟩, ?_⟩
  unfold atN at ha ⊢
  rw [if_pos hr] at ha ⊢
  by_cases h0 : o = 0
  ·rw [if_pos h0]; exact .inr (.inl rfl)
  ·rw [if_neg h0, if_pos (show 1 <= o /\ o <= (h.length : Int) from ⟨by omega, by omega⟩)] at ha
   exact absurd rfl ha
theorem stor_ok {h : List ObjV} {v : List ValV} {x : InsV} (hr : jap h = true) (hi : ∀ x ∈ h, ∀ z ∈ x.ints, i64R z) (hv : ∀ u ∈ v, VOk h.length u) :
  HpOk h.length (jdf h v x).1 /\ ((jdf h v x).2 = 0 \/ (jdf h v x).2 = 14 \/ (jdf h v x).2 = 15) := by
 have ha := jl6 (p := []) (i := x.a) hv
 have hb := jl6 (p := []) (i := x.b) hv
 unfold jdf
 split
 ·exact jjt hr hi ha.2.1 hb.1
 split
 ·exact jjt hr hi ha.2.1 hb.1
 split
 ·exact link_ok' hr hi ha.2.1 hb.2.1
 ·exact ⟨⟨hr, hi, rfl⟩, .inl rfl⟩
theorem val_ok {h : List ObjV} {v : List ValV} {x : InsV} (hr : jap h = true) (hi : ∀ x ∈ h, ∀ z ∈ x.ints, i64R z) (hv : ∀ u ∈ v, VOk h.length u) (hx : InsR x) (hn : x.op = 10 -> (0 <= x.n /\ x.n <= 8) /\ 0 <= x.m /\ x.m <= 8) (hh : h.length < 1000000) :
  ∃ k, (k = 0 \/ (k = 1 /\ x.op = 10)) /\ HpOk (h.length + k) (valR h v x).1 /\ VOk (h.length + k) (valR h v x).2.1 /\ ((valR h v x).2.2 = 0 \/ (valR h v x).2.2 = 14 \/ (valR h v x).2.2 = 15) := by
 have ha := jl6 (p := []) (i := x.a) hv
 have hb := jl6 (p := []) (i := x.b) hv
 have z0 : i64R 0 := ⟨by omega, by omega⟩
 have hok : HpOk (h.length + 0) h := ⟨hr, hi, rfl⟩
 unfold valR
 split
 ·rename_i h10
  obtain ⟨n1, n2⟩ := hn h10
  have hb : jhf h x.n x.m = true := by unfold jhf jg1; simp [hr]; omega
  refine ⟨1, .inr ⟨rfl, h10⟩, ?_, ?_, .inl (by unfold jb7; rw [if_pos hb])⟩
  ·unfold jb7
   rw [if_pos hb]
   refine ⟨rightB_iff.2 fun o ho => ?_, fun o ho z hz => ?_, by simp⟩
   ·rw [List.length_append, List.length_singleton]
    rcases List.mem_append.1 ho with ho | ho
    ·have := (rightB_iff.1 hr) o ho
     exact ⟨this.1, this.2.1, fun z hz => ⟨(this.2.2 z hz).1, by have := (this.2.2 z hz).2; omega⟩⟩
    ·rw [List.mem_singleton] at ho
     subst ho
     unfold newO
     refine ⟨by simp; omega, by simp; omega, fun z hz => ?_⟩
     have := List.eq_of_mem_replicate hz
     omega
   ·rcases List.mem_append.1 ho with ho | ho
    ·exact hi o ho z hz
    ·rw [List.mem_singleton] at ho
     subst ho
     have := List.eq_of_mem_replicate hz
     subst this
     exact z0
  ·unfold jb7
   rw [if_pos hb]
   exact ⟨z0, ⟨by show (0 : Int) <= (h.length : Int) + 1; omega, by show (h.length : Int) + 1 <= _; omega⟩, z0⟩
 split
 ·exact ⟨0, .inl rfl, hok, ⟨load_R hi, ⟨by simp, by simp⟩, z0⟩, jh7 h _ _ hr ha.2.1⟩
 split
 ·exact ⟨0, .inl rfl, hok, ⟨load_R hi, ⟨by simp, by simp⟩, z0⟩, jh7 h _ _ hr ha.2.1⟩
 split
 ·exact ⟨0, .inl rfl, hok, ⟨z0, ⟨(ref_R hr).1, (ref_R hr).2⟩, z0⟩, jnt h _ _ hr ha.2.1⟩
 split
 ·refine ⟨0, .inl rfl, hok, ?_, ?_⟩
  ·show VOk _ (derR (gv v x.a) x.n).1
   unfold derR
   split
   ·exact VOk.zero _
   ·exact ⟨z0, ha.2.1, hx.2.2.2.2.1⟩
  ·show (derR (gv v x.a) x.n).2 = 0 \/ _
   unfold derR
   split
   ·exact .inr (.inl rfl)
   ·exact .inl rfl
 split
 ·exact ⟨0, .inl rfl, hok, ⟨z0, ha.2.1, jmw _⟩, .inl rfl⟩
 split
 ·exact ⟨0, .inl rfl, hok, ha, .inl rfl⟩
 split
 ·exact ⟨0, .inl rfl, hok, VOk.zero _, .inl rfl⟩
 ·exact ⟨0, .inl rfl, hok, ⟨numR_R hx.2.2.2.2.1, ⟨by simp, by simp⟩, z0⟩, .inl rfl⟩
theorem FrmA.up {p : List FunV} {n m : Nat} {f : FrV} (h : FrmA p n f) (hm : n <= m) : FrmA p m f := by
 obtain ⟨F, h⟩ := h
 exact ⟨F, h.fn, h.len, h.bl, h.pl, fun v hv => (h.vs v hv).up hm⟩
theorem FrOk.fun {p : List FunV} {n : Nat} {f : FrV} {F : FunV} (h : FrOk p n f F) : jhk p f.fn = F := by unfold jhk; rw [h.fn]; rfl
theorem FrOk.ins {p : List FunV} {n : Nat} {f : FrV} {F : FunV} (h : FrOk p n f F) : (jaj F f.bl)[f.pl]? = some (jbz p f) := by
 unfold jbz
 rw [h.fun, List.getElem?_eq_getElem h.pl]
 rfl
theorem FrOk.all {p : List FunV} {n : Nat} {f : FrV} {F : FunV} (h : FrOk p n f F) (hp : jad p = true) : F ∈ p /\ InOk p F (jbz p f) /\ (¬ ((jbz p f).op = 21 \/ (jbz p f).op = 22 \/ (jbz p f).op = 23) -> f.pl + 1 < (jaj F f.bl).length) := by
 have hF := List.mem_of_getElem? h.fn
 obtain ⟨h1, h2, h3⟩ := jj1 hp hF h.bl h.ins
 exact ⟨hF, inOk_of hp hF h3 h2, h1⟩
theorem jnv {p : List FunV} {n k : Nat} {g : FunV} {args : List ValV} (hp : jad p = true) (hg : p[k]? = some g) (hl : args.length <= g.kinds.length) (ha : ∀ v ∈ args, VOk n v) : FrmA p n (jcy p k args) := by
 have hG : jhk p k = g := by unfold jhk; rw [hg]; rfl
 have hm := List.mem_of_getElem? hg
 have hone := (jh4 hp g hm).2
 refine ⟨g, hg, ?_, ?_, ?_, fun v hv => ?_⟩
 ·unfold jcy; rw [hG]; simp; omega
 ·show 0 < _; omega
 ·exact jjd hp hm (by show 0 < _; omega)
 ·unfold jcy at hv
  rcases List.mem_append.1 hv with hv | hv
  ·exact ha v hv
  ·rw [List.eq_of_mem_replicate hv]; exact VOk.zero n
theorem jf7 {p : List FunV} (hp : jad p = true) : InvR p (jc0 p) := by
 obtain ⟨h1, -, -, -⟩ := jal hp
 have hb := jnv (n := 0) (args := []) hp (show p[0]? = some p[0] from List.getElem?_eq_getElem h1) (by simp) (by simp)
 exact ⟨rfl, by simp [jc0], by simp [jc0], by simp [jc0], by simp [jc0], by simp [jc0], by simp [jc0], by simp [jc0], ⟨by simp [jc0], by simp [jc0]⟩, .inr rfl, fun _ => ⟨[], _, rfl, by simp, by simp, hb⟩, by simp [jc0]⟩
theorem set_vs {n : Nat} {v : List ValV} {i : Nat} {u : ValV} (h : ∀ y ∈ v, VOk n y) (hu : VOk n u) : ∀ y ∈ v.set i u, VOk n y := fun y hy => by
 rcases List.mem_or_eq_of_mem_set hy with hy | rfl
 ·exact h y hy
 ·exact hu
theorem jj5 {p : List FunV} {s : StV} {e : Nat} (h : InvR p s) (h0 : s.en = 0) (he : e = 14 \/ e = 15 \/ e = 18) {h' : List ObjV} {st : List FrV} (hok : HpOk s.heap.length h') (hst : st.length <= 60) : InvR p { s with steps := s.steps + 1, stk := st, heap := h', en := 2, code := e } :=
 ⟨hok.hp, hok.hi, by show h'.length <= s.steps + 1; rw [hok.len]; have := h.hl; omega, by show s.ev.length <= s.steps + 1; have := h.el; omega, h.er, by show 2 <= 2; omega, by show (2 = 2) ↔ e ≠ 0; simp; omega, by show e <= 18; omega, h.vr, (by
  rcases h.vv with hv | hv
  ·rw [h0] at hv; cases hv
  ·exact .inr hv), fun he => (by cases he), hst⟩
theorem jh0 {p : List FunV} {s : StV} {n : Nat} (h : InvR p s) (h0 : s.en = 0) {h' : List ObjV} {l : List FrV} {f : FrV} {ev : List Int} (hok : HpOk n h') (hn : n <= s.steps + 1) (hst : l.length < 60) (hl : ∀ g ∈ l, FrmA p n g /\ Waits p g) (hf : FrmA p n f) (hel : ev.length <= s.steps + 1) (her : ∀ z ∈ ev, i64R z) :
  InvR p { s with steps := s.steps + 1, stk := l ++ [f], heap := h', ev := ev } :=
 ⟨hok.hp, hok.hi, by show h'.length <= s.steps + 1; rw [hok.len]; exact hn, hel, her, h.en, h.ec, h.cc, h.vr, h.vv, fun _ => ⟨l, f, rfl, hst, by show ∀ g ∈ l, FrmA p h'.length g /\ Waits p g; rw [hok.len]; exact hl, by show FrmA p h'.length f; rw [hok.len]; exact hf⟩, by show (l ++ [f]).length <= 60; rw [List.length_append, List.length_singleton]; omega⟩
theorem je6 (l : List FrV) (f : FrV) : (l ++ [f]).getLast? = some f /\ (l ++ [f]).dropLast = l := by simp
theorem jim {p : List FunV} {s : StV} {l : List FrV} {f : FrV} (h : s.stk = l ++ [f]) : jg0 p s = endS (doS p l { f with pl := f.pl + 1 } (jbz p f) { s with steps := s.steps + 1 }) := by
 unfold jg0
 rw [h, (je6 l f).1, (je6 l f).2]
theorem jgc {p : List FunV} {s : StV} (hp : jad p = true) (hR : ∀ f ∈ p, ∀ l ∈ f.blocks, ∀ x ∈ l, InsR x) (hs : s.steps < 100000) (h : InvR p s) (h0 : s.en = 0) : InvR p (jg0 p s) := by
 obtain ⟨l, f, hst, hlen, hw, F, hf⟩ := h.go h0
 rw [jim hst]
 obtain ⟨hF, hx, hnext⟩ := hf.all hp
 have hxR : InsR (jbz p f) := by
  obtain ⟨-, h2, h3⟩ := jj1 hp hF hf.bl hf.ins
  exact hR F hF _ h3 _ h2
 have hfun := hf.fun
 have hins := hf.ins
 generalize jbz p f = x at *
 have hok0 : HpOk s.heap.length s.heap := ⟨h.hp, h.hi, rfl⟩
 have hhl := h.hl
 have hel := h.el
 have hnew : ∀ (v : List ValV), v.length = F.kinds.length -> ∀ n, (∀ u ∈ v, VOk n u) -> f.pl + 1 < (jaj F f.bl).length -> ∀ w, FrmA p n ⟨f.fn, v, f.bl, f.pl + 1, w⟩ := fun v hv n hvs hpl w => ⟨F, hf.fn, hv, hf.bl, hpl, hvs⟩
 have hll : (l ++ [({ f with pl := f.pl + 1 } : FrV)]).length <= 60 := by simp; omega
 unfold doS
 split
 ·rename_i hc
  obtain ⟨g1, g2⟩ := stor_ok (x := x) h.hp h.hi hf.vs
  unfold endS
  split
  ·exact jh0 (ev := s.ev) h h0 g1 (by omega) hlen hw (hnew _ hf.len _ hf.vs (hnext (by omega)) _) (by omega) h.er
  ·rename_i hne
   refine jj5 h h0 ?_ g1 hll
   rcases g2 with e | e | e
   ·exact absurd e hne
   ·exact .inl e
   ·exact .inr (.inl e)
 split
 ·rename_i h19
  unfold jlj
  split
  ·exact jj5 h h0 (.inr (.inr rfl)) hok0 hll
  ·rename_i hd
   obtain ⟨-, g, hg, ha, -⟩ := hx.call h19
   have hb := jnv (n := s.heap.length) (args := x.args.map (gv f.vars)) hp hg (by simpa using ha) (fun v hv => by
    obtain ⟨i, -, rfl⟩ := List.mem_map.1 hv
    exact jl6 (p := p) hf.vs)
   have hd' := hx.d (by omega)
   have key := jh0 (l := l ++ [({ f with pl := f.pl + 1, want := x.d } : FrV)]) (ev := s.ev) h h0 hok0 (by omega) (by rw [List.length_append, List.length_singleton]; omega) (fun g' hg' => by
    rcases List.mem_append.1 hg' with hg' | hg'
    ·exact hw g' hg'
    ·rw [List.mem_singleton] at hg'
     subst hg'
     refine ⟨hnew _ hf.len _ hf.vs (hnext (by omega)) _, by show 1 <= f.pl + 1; omega, x, ?_, h19, rfl, hd'.1, ?_⟩
     ·show (jaj (jhk p f.fn) f.bl)[f.pl + 1 - 1]? = some x
      rw [hfun, Nat.add_sub_cancel]
      exact hins
     ·show x.d < (f.vars.length : Int)
      rw [hf.len]
      exact hd'.2) hb (by omega) h.er
   unfold endS
   simp only [if_true]
   simpa using key
 split
 ·rename_i _ _ h20
  unfold endS
  simp only [if_true]
  exact jh0 (ev := s.ev ++ [(gv f.vars x.a).n]) h h0 hok0 (by omega) hlen hw (hnew _ hf.len _ hf.vs (hnext (by omega)) _) (by simp; omega) (fun z hz => by
   rcases List.mem_append.1 hz with hz | hz
   ·exact h.er z hz
   ·rw [List.mem_singleton] at hz
    subst hz
    exact (jl6 (p := p) hf.vs).1)
 split
 ·rename_i _ _ _ h21
  have hj := hx.jump (.inl h21)
  unfold endS
  simp only [if_true]
  exact jh0 (ev := s.ev) h h0 hok0 (by omega) hlen hw ⟨F, hf.fn, hf.len, by show x.n.toNat < _; omega, jjd hp hF (by show x.n.toNat < _; omega), hf.vs⟩ (by omega) h.er
 split
 ·rename_i _ _ _ _ h22
  have hj := hx.jump (.inr h22)
  have hj2 := hx.other h22
  unfold endS
  simp only [if_true]
  have hlt : (if (gv f.vars x.a).n = 0 then x.m else x.n).toNat < F.blocks.length := by split <;> omega
  exact jh0 (ev := s.ev) h h0 hok0 (by omega) hlen hw ⟨F, hf.fn, hf.len, hlt, jjd hp hF hlt, hf.vs⟩ (by omega) h.er
 split
 ·rename_i _ _ _ _ _ h23
  unfold endS
  simp only [if_true]
  unfold ansS
  rcases List.eq_nil_or_concat l with rfl | ⟨l', g, rfl⟩
  ·simp only [List.getLast?_nil]
   exact ⟨h.hp, h.hi, by show s.heap.length <= s.steps + 1; omega, by show s.ev.length <= s.steps + 1; omega, h.er, by show 1 <= 2; omega, (by
    have hz : s.code = 0 := by
     apply Classical.byContradiction
     intro hn
     have := h.ec.2 hn
     omega
    show (1 = 2) ↔ s.code ≠ 0
    rw [hz]
    simp), h.cc, (jl6 (p := p) hf.vs).1, .inl rfl, fun he => (by cases he), by show 0 <= 60; omega⟩
  ·rw [List.concat_eq_append] at *
   rw [(je6 l' g).1, (je6 l' g).2]
   have hg := hw g (by simp)
   obtain ⟨⟨G, hG⟩, hwt⟩ := hg
   exact jh0 (ev := s.ev) h h0 hok0 (by omega) (by have := hlen; simp at this; omega) (fun y hy => hw y (List.mem_append_left _ hy)) ⟨G, hG.fn, by show (g.vars.set _ _).length = _; rw [List.length_set]; exact hG.len, hG.bl, hG.pl, set_vs hG.vs (jl6 (p := p) hf.vs)⟩ (by omega) h.er
 ·rename_i c1 c2 c3 c4 c5 c6
  obtain ⟨k, hk, g1, g2, g3⟩ := val_ok (x := x) h.hp h.hi hf.vs hxR hx.new (by omega)
  split
  ·unfold endS
   simp only [if_true]
   exact jh0 (ev := s.ev) h h0 g1 (by omega) hlen (fun y hy => ⟨(hw y hy).1.up (by omega), (hw y hy).2⟩) (hnew _ (by rw [List.length_set]; exact hf.len) _ (set_vs (fun u hu => (hf.vs u hu).up (by omega)) g2) (hnext (by omega)) _) (by omega) h.er
  ·rename_i hne
   have hk0 : k = 0 := by
    rcases hk with e | ⟨-, e⟩
    ·exact e
    ·exfalso
     apply hne
     obtain ⟨n1, n2⟩ := hx.new e
     have hb : jhf s.heap x.n x.m = true := by unfold jhf jg1; simp [h.hp]; omega
     unfold valR
     rw [if_pos e]
     unfold jb7
     rw [if_pos hb]
   subst hk0
   have hee : (valR s.heap f.vars x).2.2 ≠ 0 := hne
   unfold endS
   rw [if_neg hee]
   refine jj5 h h0 ?_ g1 hll
   rcases g3 with e | e | e
   ·exact absurd e hne
   ·exact .inl e
   ·exact .inr (.inl e)
end Go.Proofs.YthbnbaikdcfbmaaGreatDoor
