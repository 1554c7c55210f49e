/- Texts of several names, of which only what the statement needs is kept. -/
import Derived.Test.YthbnbaikdcfbmaaGreatDoorPmUB
set_option linter.unusedSimpArgs false
set_option linter.unusedVariables false
set_option maxHeartbeats 1000000
set_option maxRecDepth 100000
namespace Go.Proofs.YthbnbaikdcfbmaaGreatDoor
open Go.RowKit
theorem je7 {p : List FunV} {s : StV} (h : InvR p s) (h0 : s.en = 0) : (jg0 p s).steps = s.steps + 1 := by
 obtain ⟨l, f, hst, -, -, -⟩ := h.go h0
 rw [jim hst]
 have key : ∀ r : StV × Nat, (endS r).steps = r.1.steps := fun r => by unfold endS; split <;> rfl
 rw [key]
 unfold doS jlj ansS
 repeat' (first | rfl | split)
def RunR (p : List FunV) : Prop := ∀ f ∈ p, ∀ l ∈ f.blocks, ∀ x ∈ l, InsR x
theorem inv_go {p : List FunV} (hp : jad p = true) (hR : RunR p) : ∀ (k : Nat) (s : StV), s.steps + k < 100000 -> InvR p s -> InvR p (goS p k s)
 | 0, s, _, h => h
 | k + 1, s, hk, h => by
  unfold goS
  split
  ·rename_i h0
   exact inv_go hp hR k _ (by rw [je7 h h0]; omega) (jgc hp hR (by omega) h h0)
  ·exact h
theorem go_stop {p : List FunV} {s : StV} (h : s.en ≠ 0) : ∀ k, goS p k s = s
 | 0 => rfl
 | k + 1 => by unfold goS; rw [if_neg h]
theorem jnq {p : List FunV} (hp : jad p = true) (hR : RunR p) : ∀ (k : Nat) (s : StV), s.steps + k < 100000 -> InvR p s -> s.steps <= (goS p k s).steps /\ (goS p k s).steps <= s.steps + k /\ ((goS p k s).en = 0 -> (goS p k s).steps = s.steps + k)
 | 0, s, _, h => ⟨Nat.le_refl _, Nat.le_refl _, fun _ => rfl⟩
 | k + 1, s, hk, h => by
  unfold goS
  split
  ·rename_i h0
   have hc := je7 h h0
   obtain ⟨a, b, c⟩ := jnq hp hR k (jg0 p s) (by omega) (jgc hp hR (by omega) h h0)
   exact ⟨by omega, by omega, fun e => by have := c e; omega⟩
  ·rename_i hn
   exact ⟨Nat.le_refl _, by omega, fun e => absurd e hn⟩
def jhn (p : List FunV) (op : Int) : Bool := p.any fun f => f.blocks.any fun l => l.any fun x => decide (x.op = op)
theorem ins_any {p : List FunV} {n : Nat} {f : FrV} {F : FunV} {op : Int} (hp : jad p = true) (h : FrOk p n f F) (ho : (jbz p f).op = op) : jhn p op = true := by
 have hF := List.mem_of_getElem? h.fn
 obtain ⟨-, h2, h3⟩ := jj1 hp hF h.bl h.ins
 unfold jhn
 rw [List.any_eq_true]
 refine ⟨F, hF, ?_⟩
 rw [List.any_eq_true]
 refine ⟨_, h3, ?_⟩
 rw [List.any_eq_true]
 exact ⟨_, h2, decide_eq_true ho⟩
theorem jo5 {p : List FunV} {s : StV} (hp : jad p = true) (h : InvR p s) (h0 : s.en = 0) : (jhn p 20 = false -> s.ev = [] -> (jg0 p s).ev = []) /\ (jhn p 10 = false -> s.heap = [] -> (jg0 p s).heap = []) := by
 obtain ⟨l, f, hst, -, -, F, hf⟩ := h.go h0
 rw [jim hst]
 have k1 : ∀ r : StV × Nat, (endS r).ev = r.1.ev := fun r => by unfold endS; split <;> rfl
 have k2 : ∀ r : StV × Nat, (endS r).heap = r.1.heap := fun r => by unfold endS; split <;> rfl
 rw [k1, k2]
 have hi := fun op => ins_any (op := op) hp hf
 generalize jbz p f = x at *
 refine ⟨fun ha he => ?_, fun ha he => ?_⟩
 ·have hne : x.op ≠ 20 := fun e => by rw [hi 20 e] at ha; cases ha
  unfold doS jlj ansS
  rw [if_neg hne]
  repeat' (first | exact he | split)
 ·have hne : x.op ≠ 10 := fun e => by rw [hi 10 e] at ha; cases ha
  have hs : (jdf s.heap f.vars x).1 = [] := by
   rw [he]
   have hat : ∀ o, atN [] o ≠ 0 := fun o e => by
    obtain ⟨-, h1, h2⟩ := atN_zero.1 e
    simp at h2
    omega
   unfold jdf jb6 jcr
   have hl : ∀ o n, (jbb [] o n).2 ≠ 0 := fun o n e => hat o (loadR_ok.1 e).1
   repeat' (first | rfl | rw [if_neg (hl _ _)] | rw [if_neg (hat _)] | split)
  have hv : (valR s.heap f.vars x).1 = s.heap := by
   unfold valR
   rw [if_neg hne]
   repeat' (first | rfl | split)
  unfold doS jlj ansS
  repeat' (first | exact he | exact hs | (show (valR s.heap f.vars x).1 = []; rw [hv]; exact he) | split)
theorem jl7 {p : List FunV} (hp : jad p = true) (hR : RunR p) : ∀ (k : Nat) (s : StV), s.steps + k < 100000 -> InvR p s -> (jhn p 20 = false -> s.ev = [] -> (goS p k s).ev = []) /\ (jhn p 10 = false -> s.heap = [] -> (goS p k s).heap = [])
 | 0, s, _, h => ⟨fun _ e => e, fun _ e => e⟩
 | k + 1, s, hk, h => by
  unfold goS
  split
  ·rename_i h0
   obtain ⟨a, b⟩ := jo5 hp h h0
   obtain ⟨c, d⟩ := jl7 hp hR k (jg0 p s) (by rw [je7 h h0]; omega) (jgc hp hR (by omega) h h0)
   exact ⟨fun e f => c e (a e f), fun e f => d e (b e f)⟩
  ·exact ⟨fun _ e => e, fun _ e => e⟩
theorem run_inv {p : List FunV} (hp : jad p = true) (hR : RunR p) (n : Int) : InvR p (runS p n) := inv_go hp hR _ _ (by show 0 + _ < _; omega) (jf7 hp)
theorem jq7 {p : List FunV} (hp : jad p = true) (hR : RunR p) (n : Nat) (hn : n <= 4000) : (runS p n).steps <= n /\ ((runS p n).en = 0 -> (runS p n).steps = n) := by
 unfold runS
 rw [show (min (n : Int) 4000).toNat = n by omega]
 obtain ⟨a, b, c⟩ := jnq hp hR n (jc0 p) (by show 0 + n < _; omega) (jf7 hp)
 have z : (jc0 p).steps = 0 := rfl
 exact ⟨by omega, fun e => by have := c e; omega⟩
theorem jq6 {p : List FunV} (hp : jad p = true) (hR : RunR p) (n : Int) : (jhn p 20 = false -> (runS p n).ev = []) /\ (jhn p 10 = false -> (runS p n).heap = []) := by
 obtain ⟨a, b⟩ := jl7 hp hR (min n 4000).toNat (jc0 p) (by show 0 + _ < _; omega) (jf7 hp)
 exact ⟨fun e => a e rfl, fun e => b e rfl⟩
def thB (n : Nat) (z : Int) : Bool := decide (1 <= z) && decide (z <= (n : Int))
theorem rfB_th (n : Nat) (z : Int) : rfB n z = (decide (z = 0) || thB n z) := by
 unfold rfB thB
 rw [Bool.eq_iff_iff]; simp; omega
theorem jeb (Ao : Option Addr) (n c : Nat) (z : Int) (w : World) :
  Calls Tryz.prog 43 #[.agg #[.slice Ao n c], .int .i64 z] w fun e w' => e = .returned (.bool (thB n z)) /\ Below w.heap.size w w' := by
 unfold thB
 by_cases h : 1 <= z
 ·have hd : decide (1 <= z) = true := by simpa using h
  rw [hd]
  go_enter Tryz.func43, Tryz.ntmps43
  go_wp2
  go_ret
  exact ⟨by simp, ja4 w _⟩
 ·have hd : decide (1 <= z) = false := by simpa using h
  rw [hd]
  go_enter Tryz.func43, Tryz.ntmps43
  go_wp2
  go_ret
  exact ⟨by simp, ja4 w _⟩
theorem jf9 (Ao : Option Addr) (n c : Nat) (z : Int) (hb : Nat) (w : World) (hx : Box w hb #[.slice Ao n c] 31) :
  Calls Tryz.prog 42 #[.int .i64 z, .pointer (some ⟨hb, 0, none⟩)] w fun e w' => e = .returned (.bool (!rfB n z)) /\ Below w.heap.size w w' := by
 have HT := hide (fun W => jeb Ao n c z W)
 have c0 := (hx.cell 0 (v := .slice Ao n c) rfl).1
 have hl := hx.lt
 clear hx
 by_cases h0 : z = 0
 ·subst h0
  have hr : rfB n 0 = true := rfB_iff.2 ⟨by omega, by omega⟩
  rw [hr]
  clear HT hr
  go_enter Tryz.func42, Tryz.ntmps42
  go_wp2
  go_ret
  exact ⟨rfl, Below.refl _ _⟩
 ·have hr : rfB n z = thB n z := by rw [rfB_th]; simp [h0]
  rw [hr]
  have hd : (z == 0) = false := by simpa using h0
  have hd2 : (z != 0) = true := by simpa using h0
  clear hr h0
  generalize thB n z = b at *
  go_enter Tryz.func42, Tryz.ntmps42
  go_wp2_with (go_at_call 43; refine (HT.out w).mono ?_; rintro e w1 ⟨rfl, hb1⟩)
  go_ret
  exact ⟨rfl, hb1⟩
theorem jnn (Ao : Option Addr) (n c : Nat) (w : World) :
  Calls Tryz.prog 25 #[.agg #[.slice Ao n c]] w fun e w' => ∃ hb, e = .returned (.func (.func 42) #[] #[.pointer (some ⟨hb, 0, none⟩)]) /\ w.heap.size <= hb /\ Box w' hb #[.slice Ao n c] 31 /\ Below w.heap.size w w' := by
 go_enter Tryz.func25, Tryz.ntmps25
 go_wp2
 go_ret
 exact ⟨w.heap.size, rfl, Nat.le_refl _, Box.new w _ _, ja4 w _⟩
theorem hidx_any (zs : List Int) (va : Value) (hb : Nat) (Ao : Option Addr) (n c : Nat) (w : World) (B : Nat) (hB : B <= w.heap.size) (hx : IntsV w (· < B) va zs) (hbx : Box w hb #[.slice Ao n c] 31) :
  Calls Tryz.prog 44 #[va, .func (.func 42) #[] #[.pointer (some ⟨hb, 0, none⟩)]] w fun e w' => ∃ z, e = .returned (.int .i64 z) /\ decide (0 <= z) = !zs.all (rfB n) /\ Below w.heap.size w w' := by
 have HC := hide (fun (z : Int) (W : World) (hW : Below w.heap.size w W) => jf9 Ao n c z hb W (hbx.below hW))
 have HK := hide (fun (W : World) (hW : Below w.heap.size w W) => hx.keep (up hW hB) (fun _ h => h))
 obtain ⟨A, ca, rfl, hc, hm⟩ := hx.open'
 obtain ⟨m, hn⟩ := zl zs.length
 rw [hn] at hc HK ⊢
 have HN := hide hn
 clear hn hx hbx
 go_enter Tryz.func44, Tryz.ntmps44
 go_wp2
 go_loopw [8] (fun i wr => ∃ k : Nat, k <= m /\ i = .int .i64 k /\ Below w.heap.size w wr /\ Hid ((zs.take k).all (rfB n) = true)) (fun i _ => m - (intOf i).toNat)
 case atStart => exact ⟨0, Nat.zero_le _, rfl, Below.refl _ _, hide (by simp)⟩
 case round =>
  obtain ⟨k, hk, rfl, hb, hno⟩ := hrel
  have hsz := hb.size
  have HB := hide hb
  clear hb
  by_cases hlt : k < m
  ·obtain ⟨y, hy⟩ : ∃ y, zs[k]? = some y := ⟨_, List.getElem?_eq_getElem (by have := HN.out; omega)⟩
   obtain ⟨b, o, rfl, hbb, e0, hR⟩ := (HK.out wr HB.out).get hy
   have hbs : b < wr.heap.size := by omega
   have HY := hide hy
   have HC1 := hide (HC.out y wr HB.out)
   clear hy
   cases hf : rfB n y with
   | false =>
    rw [hf] at HC1
    have hv := hide (show zs.all (rfB n) = false from jb1 HY.out hf)
    clear hf
    go_wp2_with (go_at_call 42; refine (HC1.out).mono ?_; rintro e w3 ⟨rfl, hb3⟩)
    go_ret
    exact ⟨k, rfl, by rw [hv.out]; simp, HB.out.trans (hb3.mono hsz)⟩
   | true =>
    rw [hf] at HC1
    have hv := hide (show (zs.take (k + 1)).all (rfB n) = true from jay hno.out HY.out hf)
    clear hf
    go_wp2_with (go_at_call 42; refine (HC1.out).mono ?_; rintro e w3 ⟨rfl, hb3⟩)
    go_roundw
    case rel => exact ⟨k + 1, by omega, by go_num, HB.out.trans (hb3.mono hsz), hv⟩
    case measure => simp [intOf]; omega
  ·have hv := hide (show zs.all (rfB n) = true from jbx hno.out HN.out (by omega))
   go_wp2
   go_ret
   exact ⟨-1, rfl, by rw [hv.out]; rfl, HB.out⟩
theorem js2 (zs : List Int) (va : Value) (hb : Nat) (Ao : Option Addr) (n c : Nat) (w : World) (B : Nat) (hB : B <= w.heap.size) (hx : IntsV w (· < B) va zs) (hbx : Box w hb #[.slice Ao n c] 31) :
  Calls Tryz.prog 26 #[va, .func (.func 42) #[] #[.pointer (some ⟨hb, 0, none⟩)]] w fun e w' => e = .returned (.bool (!zs.all (rfB n))) /\ Below w.heap.size w w' := by
 have H := hide (hidx_any zs va hb Ao n c w B hB hx hbx)
 obtain ⟨A, ca, rfl, -, -⟩ := hx.open'
 generalize (!zs.all (rfB n)) = b at *
 generalize zs.length = m at *
 clear hx hbx
 go_enter Tryz.func26, Tryz.ntmps26
 go_wp2_with (go_at_call 44; refine H.out.mono ?_; rintro e w' ⟨z, rfl, hz, hb⟩; have HZ := hide hz; clear hz)
 go_ret
 exact ⟨ja1 HZ.out, hb⟩
abbrev ObjT : Type := ObjV × Value × Value
def objC (p : ObjT) : List Value := [p.2.1, p.2.2]
def ObjOk (w : World) (S : Nat -> Prop) (p : ObjT) : Prop := ObjI w S p.2.1 p.2.2 p.1
theorem ObjOk.keep {w w' : World} {S S' : Nat -> Prop} {p : ObjT} (h : ObjOk w S p) (hk : Same' S w w') (hS : ∀ b, S b -> S' b) : ObjOk w' S' p := ObjI.keep h hk hS
theorem ObjOk.one {w : World} {S : Nat -> Prop} {l : List ObjT} (h : ∀ p ∈ l, ObjOk w S p) : ∀ u ∈ l.flatMap objC, u.oneCell' = true := by
 intro u hu
 obtain ⟨p, hp, hu⟩ := List.mem_flatMap.1 hu
 obtain ⟨⟨A, c, e, -⟩, ⟨A', c', e', -⟩⟩ := h p hp
 simp only [objC, List.mem_cons, List.mem_nil_iff, or_false] at hu
 rcases hu with rfl | rfl
 ·rw [e]; rfl
 ·rw [e']; rfl
theorem jga (l : List ObjT) : (l.flatMap objC).length = l.length * 2 := by
 induction l with
 | nil => rfl
 | cons x l ih => rw [List.flatMap_cons, List.length_append, ih, List.length_cons, show (objC x).length = 2 from rfl]; omega
theorem ObjsV.cells {w : World} {S : Nat -> Prop} {A : Option Addr} {n c : Nat} {xs : List ObjV} (h : ObjsV w S (.slice A n c) xs) :
  ∃ l : List ObjT, l.map (·.1) = xs /\ (∀ p ∈ l, ObjOk w S p) /\ (0 < xs.length -> ∃ b o, A = some ⟨b, o, none⟩ /\ S b /\ ∀ (j : Nat) (u : Value), (l.flatMap objC)[j]? = some u -> w.cell? ⟨b, o + j, none⟩ = some u) := by
 obtain ⟨A', c', e, h1, h2, h3⟩ := h
 injection e with eA _ _
 subst eA
 have key : ∀ ys : List ObjV, (∀ y ∈ ys, ∃ vr vi, ObjI w S vr vi y) -> True := fun _ _ => trivial
 by_cases h0 : 0 < xs.length
 ·obtain ⟨b, o, eA, hb, hc⟩ := h3 h0
  have build : ∀ (k : Nat), k <= xs.length -> ∃ l : List ObjT, l.map (·.1) = xs.take k /\ (∀ p ∈ l, ObjOk w S p) /\ ∀ (j : Nat) (u : Value), (l.flatMap objC)[j]? = some u -> w.cell? ⟨b, o + j, none⟩ = some u := by
   intro k
   induction k with
   | zero => exact fun _ => ⟨[], by simp, by simp, fun j u hu => by simp at hu⟩
   | succ k ih =>
    intro hk
    obtain ⟨l, e1, e2, e3⟩ := ih (by omega)
    obtain ⟨y, hy⟩ : ∃ y, xs[k]? = some y := ⟨_, List.getElem?_eq_getElem (by omega)⟩
    obtain ⟨vr, vi, ⟨c0, c1⟩, hi⟩ := hc k y hy
    have hl : l.length = k := by
     have := congrArg List.length e1
     simp at this
     omega
    refine ⟨l ++ [(y, vr, vi)], by rw [List.map_append, e1, List.take_add_one, hy]; rfl, fun p hp => ?_, fun j u hu => ?_⟩
    ·rcases List.mem_append.1 hp with hp | hp
     ·exact e2 p hp
     ·simp at hp; subst hp; exact hi
    ·rw [List.flatMap_append] at hu
     have hfl := jga l
     rw [hl] at hfl
     by_cases hj : j < k * 2
     ·rw [List.getElem?_append_left (by omega)] at hu
      exact e3 j u hu
     ·rw [List.getElem?_append_right (by omega), hfl] at hu
      have hu' : [vr, vi][j - k * 2]? = some u := hu
      have hj2 : j - k * 2 < 2 := (List.getElem?_eq_some_iff.1 hu').1
      by_cases hj0 : j - k * 2 = 0
      ·rw [hj0] at hu'
       simp at hu'
       subst hu'
       rw [show o + j = o + k * 2 by omega]
       exact c0
      ·have hj1 : j - k * 2 = 1 := by omega
       rw [hj1] at hu'
       simp at hu'
       subst hu'
       rw [show o + j = o + k * 2 + 1 by omega]
       exact c1
  obtain ⟨l, e1, e2, e3⟩ := build xs.length (Nat.le_refl _)
  rw [List.take_length] at e1
  exact ⟨l, e1, e2, fun _ => ⟨b, o, eA, hb, e3⟩⟩
 ·have hx : xs = [] := List.eq_nil_of_length_eq_zero (by omega)
  subst hx
  exact ⟨[], rfl, by simp, fun h => absurd h (by simp)⟩
section
variable {w w' : World} {S : Nat -> Prop} {base : Nat} {v : Value}
theorem jn9 {l : List ObjT} (h : OwC objC 70 2 w base v l) (hl : ∀ p ∈ l, ObjOk w S p) (hS : ∀ b, v.ownBlock = some b -> S b) : ObjsV w S v (l.map (·.1)) :=
 h.vec (fun _ _ => rfl) (by simp) hS fun b o j x y hx hy hc => by
  rw [List.getElem?_map, hy] at hx
  simp at hx
  subst hx
  exact ⟨y.2.1, y.2.2, ⟨hc 0 _ rfl, hc 1 _ rfl⟩, hl y (List.mem_of_getElem? hy)⟩
theorem OwC.below {β : Type} {c : β -> List Value} {T : TypeId} {sz : Nat} {l : List β} (h : OwC c T sz w base v l) (hb : Below w.heap.size w w') : OwC c T sz w' base v l :=
 h.kept fun g hg => hb.block g (h.lt g hg).2
theorem jnj : (Tryz.prog.info? 70).map (fun i => (i.zero, i.size, i.bytes)) = some (some (.agg #[.slice none 0 0, .slice none 0 0]), 2, 48) := by kernel_rfl
theorem jbp (w : World) {ops : Array Oper} {rest : List Oper} {o : Oper} {a : Act} {Q : Exit -> Act -> World -> Prop} (hgd : o.guard = none) (s x : Operand)
  (ho : o.op = .call { callee := .builtin .append, args := #[s, x], argTypes := #[29, 29] })
  (base : Nat) (v : Value) (l : List ObjT) (hs : a.eval s = v) (hown : OwC objC 70 2 w base v l)
  (A : Option Addr) (m c : Nat) (news : List ObjT) (hx : a.eval x = .slice A m c) (hm : news.length = m) (h1 : ∀ u ∈ news.flatMap objC, u.oneCell' = true) (hr : 0 < m -> ∃ b o, A = some ⟨b, o, none⟩ /\ ∀ (j : Nat) (u : Value), (news.flatMap objC)[j]? = some u -> w.cell? ⟨b, o + j, none⟩ = some u)
  (hroom : l.length + m <= 1000000) (hbase : base <= w.heap.size)
  (h : ∀ v' w', OwC objC 70 2 w' base v' (l ++ news) -> Below base w w' -> wpList Tryz.prog ops Q rest (a.put o.dst v') w') : wpList Tryz.prog ops Q (o :: rest) a w := by
 subst hm
 obtain ⟨i0, hi0, hz0, hz1, hz2⟩ := info_parts jnj
 have ht : Tryz.prog.underlying 29 = some (.slice 70) := by kernel_rfl
 refine wpList_plain hgd fun K hK => ?_
 have key : ∃ v' w', (Builtin.append_ #[29, 29] o.type #[v, .slice A news.length c]).run Tryz.prog w = .ok v' w' /\ OwC objC 70 2 w' base v' (l ++ news) /\ Below base w w' := by
  by_cases h0 : news = []
  ·subst h0
   refine ⟨v, w, ?_, by simpa using hown, Below.refl _ _⟩
   rcases hown.2 with ⟨rfl, _⟩ | ⟨g, cap, cur, rfl, _, _, hnc, _⟩
   ·cases A <;> simp [Builtin.append_, run_underlying ht, sizeOf, typeInfo, hi0, Builtin.lenOf, Builtin.firstCells, loadCells, loadCellsFrom]
   ·cases A <;> simp [Builtin.append_, run_underlying ht, sizeOf, typeInfo, hi0, Builtin.lenOf, Builtin.firstCells, hnc, storeCells, loadCells, loadCellsFrom]
    all_goals simp [List.length_map] at hnc
    all_goals first | omega | (simp [storeCells])
  ·obtain ⟨b, off, rfl, hc⟩ := hr (List.length_pos_iff.2 h0)
   obtain ⟨v', w', hrun, h2, h3, _⟩ := run_append_own (P := Tryz.prog) w base 29 o.type 70 i0 _ 2 48 ht hi0 hz0 hz1 hz2 rfl (by omega) v l.length (l.flatMap objC) hown ⟨b, off, none⟩ news.length c (news.flatMap objC) (jga news)
    (fun j u hu => by rw [Addr.add_lit]; exact hc j u hu) h1 (by simp only [maxLen]; omega)
    (by have : (l.length + news.length) * 48 <= 1000000 * 48 := Nat.mul_le_mul hroom (Nat.le_refl _); omega) hbase
   refine ⟨v', w', hrun, by unfold OwC; rw [List.flatMap_append, List.length_append]; exact h2, (Below.refl _ _).grown h3 hbase fun g hg => (World.ownsRow.lt hown g hg).1⟩
 obtain ⟨v', w', hrun, h2, h3⟩ := key
 unfold Oper.wp execOp
 simp only [ho, resolve, invoke, builtin, Sem.run_bind, Sem.run_pure, Result.andThen_ok, List.map_toArray, List.map_cons, List.map_nil, hs, hx, hrun]
 exact hK _ _ (h v' w' h2 h3)
end
theorem upS {w w' : World} {S : Nat -> Prop} (h : Below w.heap.size w w') (hS : ∀ b, S b -> b < w.heap.size) : Same' S w w' := fun b o hb => h.cell (p := ⟨b, o, none⟩) (hS b hb)
theorem OwC.lit0 {β : Type} {c : β -> List Value} {T : TypeId} {sz : Nat} (w : World) : OwC c T sz (w.alloc (.cells #[] T)) w.heap.size (.slice (some ⟨w.heap.size, 0, none⟩) 0 0) [] :=
 World.ownsRow_lit w #[] 0 (Nat.le_refl _) (by simp [maxLen]) (by simp)
theorem jox (v : Value) (xs : List ObjV) (w : World) (S : Nat -> Prop) (hS : ∀ b, S b -> b < w.heap.size) (hx : ObjsV w S v xs) (hmax : xs.length <= 100000) :
  Calls Tryz.prog 163 #[v] w fun e w' => ∃ v' l, e = .returned v' /\ OwC objC 70 2 w' w.heap.size v' l /\ l.map (·.1) = xs /\ (∀ p ∈ l, ObjOk w S p) /\ Below w.heap.size w w' := by
 obtain ⟨A, c, rfl, hc, hm⟩ := hx.open'
 obtain ⟨l, hl, hok, hcell⟩ := hx.cells
 obtain ⟨n, hn⟩ := zl xs.length
 have HLN := hide (show l.length = n by have := congrArg List.length hl; rw [List.length_map] at this; omega)
 have HL := hide hl
 have HOK := hide hok
 have HONE := hide (ObjOk.one hok)
 rw [hn] at hx hc hmax hcell ⊢
 have HC := hide hcell
 clear hx hn hl hok hcell
 rcases A with _ | ad
 ·have hz : n = 0 := by
   rcases Nat.eq_zero_or_pos n with h | h
   ·exact h
   ·obtain ⟨b, o, h, -⟩ := HC.out h
    cases h
  subst hz
  have q22 : ∀ (w : World) (a : Option Addr) (n c n' c' : Nat), (binOp .eql 29 (.slice a n c) (.slice none n' c')).run Tryz.prog w = .ok (.bool a.isNone) w := fun w a n c n' c' => Lib.run_eql_slice_nil w _ _ a n c n' c' Tryz.underlying29
  go_enter Tryz.func163, Tryz.ntmps163
  go_wp2
  go_ret
  have hl0 : l = [] := List.eq_nil_of_length_eq_zero HLN.out
  exact ⟨_, l, rfl, by rw [hl0]; exact OwC.nil _ _, HL.out, HOK.out, Below.refl _ _⟩
 ·have HO := hide (OwC.lit0 (c := objC) (T := 70) (sz := 2) w)
  have HR := hide (show 0 < n -> ∃ b o, some ad = some ⟨b, o, none⟩ /\ ∀ (j : Nat) (u : Value), (l.flatMap objC)[j]? = some u -> (w.alloc (.cells #[] 70)).cell? ⟨b, o + j, none⟩ = some u from fun h => by
   obtain ⟨b, o, e, hb, hc⟩ := HC.out h
   exact ⟨b, o, e, fun j u hu => (World.cell?_alloc_lt w _ ⟨b, o + j, none⟩ (hS b hb)).trans (hc j u hu)⟩)
  have q22 : ∀ (w : World) (a : Option Addr) (n c n' c' : Nat), (binOp .eql 29 (.slice a n c) (.slice none n' c')).run Tryz.prog w = .ok (.bool a.isNone) w := fun w a n c n' c' => Lib.run_eql_slice_nil w _ _ a n c n' c' Tryz.underlying29
  go_enter Tryz.func163, Tryz.ntmps163
  go_wp2_with (at_builtin; refine jbp _ rfl (.tmp 5) (.tmp 6) rfl w.heap.size (.slice (some ⟨w.heap.size, 0, none⟩) 0 0) [] rfl HO.out (some ad) n c l rfl HLN.out HONE.out HR.out (by simp; omega) (by simp) ?_; intro v1 w1 ho1 hb1)
  go_ret
  exact ⟨v1, l, rfl, by simpa using ho1, HL.out, HOK.out, ((Below.refl _ _).alloc (Nat.le_refl _) _).trans hb1⟩
theorem jmh (v : Value) (xs : List Int) (w : World) (B : Nat) (hB : B <= w.heap.size) (hx : IntsV w (· < B) v xs) (hmax : xs.length <= 100000) :
  Calls Tryz.prog 162 #[v] w fun e w' => ∃ v', e = .returned v' /\ Ow w' w.heap.size 3 .i64 v' xs /\ Below w.heap.size w w' := by
 obtain ⟨A, c, rfl, hc, hm, hs, hR⟩ := hx.sl
 obtain ⟨i0, hi0, hz0, hz1, hz2⟩ := info_parts jc5
 have HI := hide hi0
 obtain ⟨n, hn⟩ := zl xs.length
 have HN := hide hn
 have HS := hide hs
 rw [hn] at hc hmax ⊢
 clear hx hn hs hi0
 rcases A with _ | ad
 ·have hz : xs = [] := by
   rcases xs with _ | ⟨x, xs⟩
   ·rfl
   ·obtain ⟨b, o, h, -⟩ := HS.out (by simp)
    cases h
  have HZ := hide hz
  clear hz
  have q22 : ∀ (w : World) (a : Option Addr) (n c n' c' : Nat), (binOp .eql 32 (.slice a n c) (.slice none n' c')).run Tryz.prog w = .ok (.bool a.isNone) w := fun w a n c n' c' => Lib.run_eql_slice_nil w _ _ a n c n' c' Tryz.underlying32
  go_enter Tryz.func162, Tryz.ntmps162
  go_wp2
  go_ret
  exact ⟨_, rfl, by rw [HZ.out]; exact Ow.nil _ _ _ _, Below.refl _ _⟩
 ·have ho0 : Ow (w.alloc (.cells #[] 3)) w.heap.size 3 .i64 (.slice (some ⟨w.heap.size, 0, none⟩) 0 0) [] := World.ownsRow_lit w #[] 0 (Nat.le_refl _) (by simp [maxLen]) (by simp)
  have HO := hide ho0
  clear ho0
  have q22 : ∀ (w : World) (a : Option Addr) (n c n' c' : Nat), (binOp .eql 32 (.slice a n c) (.slice none n' c')).run Tryz.prog w = .ok (.bool a.isNone) w := fun w a n c n' c' => Lib.run_eql_slice_nil w _ _ a n c n' c' Tryz.underlying32
  go_enter Tryz.func162, Tryz.ntmps162
  go_wp2_with (at_builtin; refine jai _ rfl (.tmp 5) (.tmp 6) _ rfl w.heap.size 3 .i64 i0 _ 8 Tryz.underlying32 HI.out hz0 hz1 hz2 rfl (by omega) (.slice (some ⟨w.heap.size, 0, none⟩) 0 0) [] rfl HO.out _ (some ad) n c xs rfl HN.out (HS.out.alloc hB _) (by simp; omega) (by simp) ?_; intro v1 w1 ho1 hb1)
  go_ret
  exact ⟨v1, rfl, by simpa using ho1, ((Below.refl _ _).alloc (Nat.le_refl _) _).trans hb1⟩
end Go.Proofs.YthbnbaikdcfbmaaGreatDoor
