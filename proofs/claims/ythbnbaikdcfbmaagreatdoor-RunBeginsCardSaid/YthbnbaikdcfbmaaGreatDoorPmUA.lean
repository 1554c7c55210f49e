/- Texts of several names, of which only what the statement needs is kept. -/
import Derived.Test.YthbnbaikdcfbmaaGreatDoorPmRDo
set_option linter.unusedSimpArgs false
set_option linter.unusedVariables false
namespace Go.Proofs.YthbnbaikdcfbmaaGreatDoor
open Go.RowKit
structure ObjV where
 refs : List Int
 ints : List Int
instance : DecidableEq ObjV := fun x y =>
 decidable_of_iff (x.refs = y.refs /\ x.ints = y.ints) (by
  cases x; cases y
  simp only [ObjV.mk.injEq])
def ObjI (w : World) (S : Nat -> Prop) (vr vi : Value) (x : ObjV) : Prop := IntsV w S vr x.refs /\ IntsV w S vi x.ints
def ObjC (w : World) (S : Nat -> Prop) (b o : Nat) (x : ObjV) : Prop := ∃ vr vi, (w.cell? ⟨b, o, none⟩ = some vr /\ w.cell? ⟨b, o + 1, none⟩ = some vi) /\ ObjI w S vr vi x
def ObjsV (w : World) (S : Nat -> Prop) (v : Value) (h : List ObjV) : Prop := Vec 2 (ObjC w S) S v h
section
variable {w w' : World} {S S' : Nat -> Prop}
theorem ObjI.keep {vr vi : Value} {x : ObjV} (h : ObjI w S vr vi x) (hk : Same' S w w') (hS : ∀ b, S b -> S' b) : ObjI w' S' vr vi x := ⟨IntsV.keep h.1 hk hS, IntsV.keep h.2 hk hS⟩
theorem ObjsV.keep {v : Value} {xs : List ObjV} (h : ObjsV w S v xs) (hk : Same' S w w') (hS : ∀ b, S b -> S' b) : ObjsV w' S' v xs :=
 Vec.mono h hS fun b o x hb _ ⟨vr, vi, ⟨h0, h1⟩, hi⟩ => ⟨vr, vi, ⟨(hk b _ hb).trans h0, (hk b _ hb).trans h1⟩, ObjI.keep hi hk hS⟩
theorem ObjsV.open' {v : Value} {xs : List ObjV} (h : ObjsV w S v xs) : ∃ A c, v = .slice A xs.length c /\ xs.length <= c /\ c <= 9223372036854775807 := by
 obtain ⟨A, c, e, h1, h2, -⟩ := h
 exact ⟨A, c, e, h1, h2⟩
theorem ObjsV.get {A : Option Addr} {n c k : Nat} {xs : List ObjV} {y : ObjV} (h : ObjsV w S (.slice A n c) xs) (hy : xs[k]? = some y) :
  ∃ b o Ar cr Ai ci, A = some ⟨b, o, none⟩ /\ S b /\ (w.cell? ⟨b, o + k * 2, none⟩ = some (.slice Ar y.refs.length cr) /\ w.cell? ⟨b, o + k * 2 + 1, none⟩ = some (.slice Ai y.ints.length ci)) /\ ObjI w S (.slice Ar y.refs.length cr) (.slice Ai y.ints.length ci) y := by
 obtain ⟨A', c', e, -, -, h3⟩ := h
 injection e with eA _ _
 subst eA
 obtain ⟨b, o, rfl, hb, hc⟩ := h3 (by have := (List.getElem?_eq_some_iff.1 hy).1; omega)
 obtain ⟨vr, vi, h5, hi⟩ := hc k y hy
 obtain ⟨Ar, cr, rfl, -, -⟩ := hi.1.open'
 obtain ⟨Ai, ci, rfl, -, -⟩ := hi.2.open'
 exact ⟨b, o, Ar, cr, Ai, ci, rfl, hb, h5, hi⟩
end
def rfB (n : Nat) (z : Int) : Bool := decide (0 <= z) && decide (z <= n)
theorem rfB_iff {n : Nat} {z : Int} : rfB n z = true ↔ 0 <= z /\ z <= n := by simp [rfB]
def objB (n : Nat) (o : ObjV) : Bool := decide (o.refs.length <= 8) && (decide (o.ints.length <= 8) && o.refs.all (rfB n))
def jap (h : List ObjV) : Bool := h.all (objB h.length)
theorem objB_iff {n : Nat} {o : ObjV} : objB n o = true ↔ o.refs.length <= 8 /\ o.ints.length <= 8 /\ ∀ z ∈ o.refs, 0 <= z /\ z <= n := by
 simp [objB, rfB]
theorem rightB_iff {h : List ObjV} : jap h = true ↔ ∀ o ∈ h, o.refs.length <= 8 /\ o.ints.length <= 8 /\ ∀ z ∈ o.refs, 0 <= z /\ z <= h.length := by
 unfold jap
 rw [List.all_eq_true]
 exact forall_congr' fun o => imp_congr_right fun _ => objB_iff
def atN (h : List ObjV) (obj : Int) : Nat := if jap h = true then (if obj = 0 then 14 else if 1 <= obj /\ obj <= h.length then 0 else 1) else 1
theorem atN_zero {h : List ObjV} {obj : Int} : atN h obj = 0 ↔ jap h = true /\ 1 <= obj /\ obj <= h.length := by
 unfold atN
 by_cases h1 : jap h = true
 ·rw [if_pos h1]
  by_cases h2 : obj = 0
  ·rw [if_pos h2]; simp; omega
  ·rw [if_neg h2]
   by_cases h3 : 1 <= obj /\ obj <= h.length
   ·rw [if_pos h3]; simp [h1, h3]
   ·rw [if_neg h3]; simp; intro _; omega
 ·rw [if_neg h1]; simp [h1]
def objO (h : List ObjV) (obj : Int) : ObjV := (h[(obj - 1).toNat]?).getD ⟨[], []⟩
def fldR (l : List Int) (n : Int) : Int × Nat := if 0 <= n /\ n < l.length then (l.getD n.toNat 0, 0) else (0, 15)
def jbb (h : List ObjV) (obj n : Int) : Int × Nat := if atN h obj = 0 then fldR (objO h obj).ints n else (0, atN h obj)
def refR (h : List ObjV) (obj n : Int) : Int × Nat := if atN h obj = 0 then fldR (objO h obj).refs n else (0, atN h obj)
def putN (h : List ObjV) (obj n v : Int) : List ObjV := h.set (obj - 1).toNat ⟨(objO h obj).refs, (objO h obj).ints.set n.toNat v⟩
def putR (h : List ObjV) (obj n v : Int) : List ObjV := h.set (obj - 1).toNat ⟨(objO h obj).refs.set n.toNat v, (objO h obj).ints⟩
def jb6 (h : List ObjV) (obj n v : Int) : List ObjV × Nat := if (jbb h obj n).2 = 0 then (putN h obj n v, 0) else (h, (jbb h obj n).2)
def jcr (h : List ObjV) (obj n t : Int) : List ObjV × Nat :=
 if atN h obj = 0 then (if rfB h.length t = true then (if (refR h obj n).2 = 0 then (putR h obj n t, 0) else (h, (refR h obj n).2)) else (h, 1)) else (h, atN h obj)
def newO (r i : Int) : ObjV := ⟨List.replicate r.toNat 0, List.replicate i.toNat 0⟩
def jg1 (n : Int) : Bool := decide (0 <= n) && decide (n <= 8)
def jhf (h : List ObjV) (r i : Int) : Bool := jap h && (jg1 r && jg1 i)
def jb7 (h : List ObjV) (r i : Int) : List ObjV × Int × Nat := if jhf h r i = true then (h ++ [newO r i], (h.length : Int) + 1, 0) else (h, 0, 1)
theorem jj0 {h : List ObjV} {obj : Int} (h1 : 1 <= obj) (h2 : obj <= h.length) : h[(obj - 1).toNat]? = some (objO h obj) := by
 unfold objO
 rw [List.getElem?_eq_getElem (by omega)]
 rfl
theorem js8 {l : List Int} {n : Int} : (fldR l n).2 = 0 ↔ 0 <= n /\ n < l.length := by
 unfold fldR
 split
 ·simpa
 ·simp; omega
theorem fldR_val {l : List Int} {n : Int} (h : 0 <= n /\ n < l.length) : fldR l n = (l.getD n.toNat 0, 0) := by unfold fldR; rw [if_pos h]
theorem loadR_ok {h : List ObjV} {obj n : Int} : (jbb h obj n).2 = 0 ↔ atN h obj = 0 /\ 0 <= n /\ n < (objO h obj).ints.length := by
 unfold jbb
 split
 ·rename_i e
  rw [js8]
  simp [e]
 ·rename_i e
  simp [e]
theorem refR_ok {h : List ObjV} {obj n : Int} : (refR h obj n).2 = 0 ↔ atN h obj = 0 /\ 0 <= n /\ n < (objO h obj).refs.length := by
 unfold refR
 split
 ·rename_i e
  rw [js8]
  simp [e]
 ·rename_i e
  simp [e]
structure ValV where
 n : Int
 o : Int
 a : Int
def vZ : ValV := ⟨0, 0, 0⟩
structure FrV where
 fn : Nat
 vars : List ValV
 bl : Nat
 pl : Nat
 want : Int
structure StV where
 stk : List FrV
 heap : List ObjV
 ev : List Int
 en : Nat
 val : Int
 code : Nat
 steps : Nat
def gv (v : List ValV) (i : Int) : ValV := (v[i.toNat]?).getD vZ
def noF : FunV := ⟨[], [], 0, 0, []⟩
def noI : InsV := ⟨0, 0, 0, 0, 0, 0, []⟩
def jhk (p : List FunV) (n : Nat) : FunV := (p[n]?).getD noF
def jbz (p : List FunV) (f : FrV) : InsV := ((jaj (jhk p f.fn) f.bl)[f.pl]?).getD noI
def jcy (p : List FunV) (n : Nat) (args : List ValV) : FrV := ⟨n, args ++ List.replicate ((jhk p n).kinds.length - args.length) vZ, 0, 0, 0⟩
def numR (a b : ValV) (x : InsV) : Int :=
 if x.op = 1 then x.n else if x.op = 3 then wrap64 (a.n + b.n) else if x.op = 4 then wrap64 (a.n - b.n) else if x.op = 5 then wrap64 (a.n * b.n)
 else if x.op = 6 then (if a.n < b.n then 1 else 0) else if x.op = 8 then (if a.o = 0 then 1 else 0) else if x.op = 9 then (if a.o = b.o then 1 else 0) else 0
def derR (a : ValV) (n : Int) : ValV × Nat := if a.o = 0 then (vZ, 14) else (⟨0, a.o, n⟩, 0)
def valR (h : List ObjV) (v : List ValV) (x : InsV) : List ObjV × ValV × Nat :=
 if x.op = 10 then ((jb7 h x.n x.m).1, ⟨0, (jb7 h x.n x.m).2.1, 0⟩, (jb7 h x.n x.m).2.2)
 else if x.op = 11 then (h, ⟨(jbb h (gv v x.a).o x.n).1, 0, 0⟩, (jbb h (gv v x.a).o x.n).2)
 else if x.op = 17 then (h, ⟨(jbb h (gv v x.a).o (gv v x.a).a).1, 0, 0⟩, (jbb h (gv v x.a).o (gv v x.a).a).2)
 else if x.op = 13 then (h, ⟨0, (refR h (gv v x.a).o x.n).1, 0⟩, (refR h (gv v x.a).o x.n).2)
 else if x.op = 15 then (h, derR (gv v x.a) x.n)
 else if x.op = 16 then (h, ⟨0, (gv v x.a).o, wrap64 ((gv v x.a).a + x.n)⟩, 0)
 else if x.op = 2 then (h, gv v x.a, 0)
 else if x.op = 7 then (h, vZ, 0)
 else (h, ⟨numR (gv v x.a) (gv v x.b) x, 0, 0⟩, 0)
def jdf (h : List ObjV) (v : List ValV) (x : InsV) : List ObjV × Nat :=
 if x.op = 12 then jb6 h (gv v x.a).o x.n (gv v x.b).n
 else if x.op = 18 then jb6 h (gv v x.a).o (gv v x.a).a (gv v x.b).n
 else if x.op = 14 then jcr h (gv v x.a).o x.n (gv v x.b).o else (h, 0)
def jlj (p : List FunV) (l : List FrV) (f : FrV) (x : InsV) (s : StV) : StV × Nat :=
 if 60 <= l.length + 1 then ({ s with stk := l ++ [f] }, 18) else ({ s with stk := l ++ [{ f with want := x.d }, jcy p x.n.toNat (x.args.map (gv f.vars))] }, 0)
def ansS (l : List FrV) (v : ValV) (s : StV) : StV :=
 match l.getLast? with
 | none => { s with stk := [], en := 1, val := v.n }
 | some g => { s with stk := l.dropLast ++ [{ g with vars := g.vars.set g.want.toNat v }] }
def doS (p : List FunV) (l : List FrV) (f : FrV) (x : InsV) (s : StV) : StV × Nat :=
 if x.op = 12 \/ x.op = 14 \/ x.op = 18 then ({ s with stk := l ++ [f], heap := (jdf s.heap f.vars x).1 }, (jdf s.heap f.vars x).2)
 else if x.op = 19 then jlj p l f x s
 else if x.op = 20 then ({ s with stk := l ++ [f], ev := s.ev ++ [(gv f.vars x.a).n] }, 0)
 else if x.op = 21 then ({ s with stk := l ++ [{ f with bl := x.n.toNat, pl := 0 }] }, 0)
 else if x.op = 22 then ({ s with stk := l ++ [{ f with bl := (if (gv f.vars x.a).n = 0 then x.m else x.n).toNat, pl := 0 }] }, 0)
 else if x.op = 23 then (ansS l (gv f.vars x.a) s, 0)
 else if (valR s.heap f.vars x).2.2 = 0 then ({ s with stk := l ++ [{ f with vars := f.vars.set x.d.toNat (valR s.heap f.vars x).2.1 }], heap := (valR s.heap f.vars x).1 }, 0)
 else ({ s with stk := l ++ [f], heap := (valR s.heap f.vars x).1 }, (valR s.heap f.vars x).2.2)
def endS (r : StV × Nat) : StV := if r.2 = 0 then r.1 else { r.1 with en := 2, code := r.2 }
def jg0 (p : List FunV) (s : StV) : StV :=
 match s.stk.getLast? with
 | none => s
 | some f => endS (doS p s.stk.dropLast { f with pl := f.pl + 1 } (jbz p f) { s with steps := s.steps + 1 })
def goS (p : List FunV) : Nat -> StV -> StV
 | 0, s => s
 | k + 1, s => if s.en = 0 then goS p k (jg0 p s) else s
def jc0 (p : List FunV) : StV := ⟨[jcy p 0 []], [], [], 0, 0, 0, 0⟩
def runS (p : List FunV) (n : Int) : StV := goS p (min n 4000).toNat (jc0 p)
structure InOk (p : List FunV) (f : FunV) (x : InsV) : Prop where
 rng : 1 <= x.op /\ x.op <= 23
 a : ¬ (x.op = 19 \/ x.op = 21) -> 0 <= x.a /\ x.a < f.kinds.length
 b : ¬ (x.op = 19 \/ x.op = 20 \/ x.op = 21 \/ x.op = 22 \/ x.op = 23) -> 0 <= x.b /\ x.b < f.kinds.length
 d : ¬ (x.op = 12 \/ x.op = 14 \/ x.op = 18 \/ x.op = 20 \/ x.op = 21 \/ x.op = 22 \/ x.op = 23) -> 0 <= x.d /\ x.d < f.kinds.length
 args : x.op = 19 -> ∀ v ∈ x.args, 0 <= v /\ v < f.kinds.length
 call : x.op = 19 -> 0 <= x.n /\ ∃ g, p[x.n.toNat]? = some g /\ x.args.length <= g.kinds.length /\ x.args.length <= 4
 new : x.op = 10 -> (0 <= x.n /\ x.n <= 8) /\ 0 <= x.m /\ x.m <= 8
 jump : x.op = 21 \/ x.op = 22 -> 0 <= x.n /\ x.n < f.blocks.length
 other : x.op = 22 -> 0 <= x.m /\ x.m < f.blocks.length
theorem inOk_of {p : List FunV} (h : jad p = true) {f : FunV} (hf : f ∈ p) {l : List InsV} (hl : l ∈ f.blocks) {x : InsV} (hx : x ∈ l) : InOk p f x := by
 obtain ⟨-, -, -, hall⟩ := jal h
 obtain ⟨-, -, -, -, hmay⟩ := jah (hall f hf)
 have hm := hmay l hl x hx
 obtain ⟨h1, h2, h3, h4, h5⟩ := jcm hm
 have hr := jiv h1
 have hpn : jae x.op = partsT.getD x.op.toNat [] := by unfold jae; rw [if_neg (by omega)]
 have hop : x.op = ((x.op.toNat : Nat) : Int) := by omega
 have hlt : x.op.toNat < 24 := by omega
 have hhas : ∀ c, ja9 x.op c = decide (c ∈ partsT.getD x.op.toNat []) := fun c => by unfold ja9; rw [hpn]
 have k1 : ∀ j : Nat, j < 24 -> (j = 0 \/ j = 19 \/ j = 21 \/ j = 1 \/ j = 7 \/ j = 10) \/ 65 ∈ partsT.getD j [] := by decide
 have k2 : ∀ j : Nat, j < 24 -> (j = 1 \/ j = 7 \/ j = 10) -> 65 ∉ partsT.getD j [] := by decide
 have k3 : ∀ j : Nat, j < 24 -> (j = 3 \/ j = 4 \/ j = 5 \/ j = 6 \/ j = 9 \/ j = 12 \/ j = 14 \/ j = 18) -> 66 ∈ partsT.getD j [] := by decide
 have k4 : ∀ j : Nat, j < 24 -> (j = 3 \/ j = 4 \/ j = 5 \/ j = 6 \/ j = 9 \/ j = 12 \/ j = 14 \/ j = 18) \/ 66 ∉ partsT.getD j [] := by decide
 have k5 : ∀ j : Nat, j < 24 -> (j = 0 \/ j = 12 \/ j = 14 \/ j = 18 \/ j = 20 \/ j = 21 \/ j = 22 \/ j = 23) \/ 68 ∈ partsT.getD j [] := by decide
 have k6 : 76 ∈ partsT.getD 19 [] := by decide
 replace k1 : ¬ (x.op.toNat = 19 \/ x.op.toNat = 21 \/ x.op.toNat = 1 \/ x.op.toNat = 7 \/ x.op.toNat = 10) -> 65 ∈ partsT.getD x.op.toNat [] := fun h => (k1 _ hlt).resolve_left (by omega)
 replace k2 := k2 _ hlt
 replace k3 := k3 _ hlt
 replace k4 : ¬ (x.op.toNat = 3 \/ x.op.toNat = 4 \/ x.op.toNat = 5 \/ x.op.toNat = 6 \/ x.op.toNat = 9 \/ x.op.toNat = 12 \/ x.op.toNat = 14 \/ x.op.toNat = 18) -> 66 ∉ partsT.getD x.op.toNat [] := fun h => (k4 _ hlt).resolve_left h
 replace k5 : ¬ (x.op.toNat = 12 \/ x.op.toNat = 14 \/ x.op.toNat = 18 \/ x.op.toNat = 20 \/ x.op.toNat = 21 \/ x.op.toNat = 22 \/ x.op.toNat = 23) -> 68 ∈ partsT.getD x.op.toNat [] := fun h => (k5 _ hlt).resolve_left (by omega)
 replace k6 : x.op.toNat = 19 -> 76 ∈ partsT.getD x.op.toNat [] := fun h => by rw [h]; exact k6
 have hd : ¬ (x.op = 12 \/ x.op = 14 \/ x.op = 18 \/ x.op = 20 \/ x.op = 21 \/ x.op = 22 \/ x.op = 23) -> 0 <= x.d /\ x.d < f.kinds.length := fun hn => jc6 (h3 (by rw [hhas]; exact decide_eq_true (k5 (by omega))))
 have hu : ∀ v ∈ jas x, 0 <= v /\ v < f.kinds.length := fun v hv => jc6 (h4 v hv)
 unfold jdw at h2
 rw [List.all_eq_true] at h2
 have hA : 65 ∈ partsT.getD x.op.toNat [] -> 0 <= x.a /\ x.a < f.kinds.length := fun hm => hu _ (by
  unfold jas; rw [hhas 65, decide_eq_true hm]; simp)
 have hB : 66 ∈ partsT.getD x.op.toNat [] -> 0 <= x.b /\ x.b < f.kinds.length := fun hm => hu _ (by
  unfold jas; rw [hhas 66, decide_eq_true hm]; simp)
 have hA0 : 65 ∉ partsT.getD x.op.toNat [] -> x.a = 0 := fun hm => by
  have := h2 _ (show (x.a != 0, ja9 x.op 65, (⟨#[65]⟩ : ByteArray)) ∈ jcc x from by unfold jcc; simp)
  rw [hhas 65, decide_eq_false hm] at this
  simpa using this
 have hB0 : 66 ∉ partsT.getD x.op.toNat [] -> x.b = 0 := fun hm => by
  have := h2 _ (show (x.b != 0, ja9 x.op 66, (⟨#[66]⟩ : ByteArray)) ∈ jcc x from by unfold jcc; simp)
  rw [hhas 66, decide_eq_false hm] at this
  simpa using this
 unfold jc9 at h5
 refine ⟨hr, fun hn => ?_, fun hn => ?_, hd, fun h19 v hv => hu v (by
  unfold jas
  rw [hhas 76, decide_eq_true (k6 (by omega))]
  simp [hv]), fun h19 => ?_, fun h10 => ?_, fun hj => ?_, fun hj => ?_⟩
 ·by_cases hc : x.op = 1 \/ x.op = 7 \/ x.op = 10
  ·rw [hA0 (k2 (by omega))]
   have := hd (by omega)
   omega
  ·exact hA (k1 (by omega))
 ·by_cases hc : x.op = 3 \/ x.op = 4 \/ x.op = 5 \/ x.op = 6 \/ x.op = 9 \/ x.op = 12 \/ x.op = 14 \/ x.op = 18
  ·exact hB (k3 (by omega))
  ·rw [hB0 (k4 (by omega))]
   have := hd (by omega)
   omega
 ·rw [if_neg (by omega), if_neg (by omega), if_neg (by omega), if_neg (by omega), if_pos h19] at h5
  have hc := jmq hall h5
  unfold jbk at h5
  simp only [Bool.and_eq_true, inB_iff, decide_eq_true_eq] at h5
  obtain ⟨⟨h6, h7⟩, h8⟩ := h5
  cases hg : p[x.n.toNat]? with
  | none => rw [hg] at h8; cases h8
  | some g =>
   rw [hg] at h8
   simp at h8
   have := (jah (hall g (List.mem_of_getElem? hg))).2.1
   exact ⟨h6, g, rfl, by omega, by omega⟩
 ·rw [if_neg (by omega), if_neg (by omega), if_pos h10] at h5
  simp only [Bool.and_eq_true, inB_iff] at h5
  omega
 ·rcases hj with hj | hj
  ·rw [if_neg (by omega), if_neg (by omega), if_neg (by omega), if_neg (by omega), if_neg (by omega), if_pos hj] at h5
   have := jea h5
   omega
  ·rw [if_neg (by omega), if_neg (by omega), if_neg (by omega), if_neg (by omega), if_neg (by omega), if_neg (by omega), if_pos hj] at h5
   rw [Bool.and_eq_true] at h5
   have := jea h5.1
   omega
 ·rw [if_neg (by omega), if_neg (by omega), if_neg (by omega), if_neg (by omega), if_neg (by omega), if_neg (by omega), if_pos hj] at h5
  rw [Bool.and_eq_true] at h5
  have := jea h5.2
  omega
theorem jj1 {p : List FunV} (h : jad p = true) {f : FunV} (hf : f ∈ p) {b k : Nat} {x : InsV} (hb : b < f.blocks.length) (hx : (jaj f b)[k]? = some x) : (¬ (x.op = 21 \/ x.op = 22 \/ x.op = 23) -> k + 1 < (jaj f b).length) /\ x ∈ jaj f b /\ jaj f b ∈ f.blocks := by
 obtain ⟨-, -, -, hall⟩ := jal h
 obtain ⟨-, -, -, ⟨-, -, hbl⟩, -⟩ := jah (hall f hf)
 have hm : jaj f b ∈ f.blocks := by
  unfold jaj
  rw [List.getElem?_eq_getElem hb]
  exact List.getElem_mem hb
 refine ⟨fun hn => ?_, List.mem_of_getElem? hx, hm⟩
 have hk := (List.getElem?_eq_some_iff.1 hx).1
 have he := jnr (hbl _ hm).2.2 hx
 have hl : jcb x.op = false := by unfold jcb; simp; omega
 rw [hl] at he
 have := of_decide_eq_false he.symm
 omega
theorem jjd {p : List FunV} (h : jad p = true) {f : FunV} (hf : f ∈ p) {b : Nat} (hb : b < f.blocks.length) : 0 < (jaj f b).length := by
 obtain ⟨-, -, -, hall⟩ := jal h
 obtain ⟨-, -, -, ⟨-, -, hbl⟩, -⟩ := jah (hall f hf)
 have hm : jaj f b ∈ f.blocks := by
  unfold jaj
  rw [List.getElem?_eq_getElem hb]
  exact List.getElem_mem hb
 have := (hbl _ hm).1
 omega
end Go.Proofs.YthbnbaikdcfbmaaGreatDoor
