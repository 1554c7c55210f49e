/- A queue of numbers: a slice that is cut off at its front and appended to at its end; a map of states, by what it holds. No condition. -/
import Derived.Test.YthbnbaikdcfbmaaGreatDoorPmKF
import Derived.Deep.AppendSrc
set_option linter.unusedSimpArgs false
set_option linter.unusedVariables false
namespace Go.Proofs.YthbnbaikdcfbmaaGreatDoor
open Go.RowKit Go.Maps
def QuI (w : World) (v : Value) (l : List Int) : Prop := ∃ A c, v = .slice A l.length c /\ l.length <= c /\ c <= maxLen /\ (0 < c -> ∃ g o, A = some ⟨g, o, none⟩ /\ g < w.heap.size /\ (∀ j, j < c -> (w.cell? ⟨g, o + j, none⟩).isSome = true /\ w.frozen? ⟨g, o + j, none⟩ = false) /\ ∀ j x, l[j]? = some x -> w.cell? ⟨g, o + j, none⟩ = some (.int .i64 x))
theorem QuI.keep {w w' : World} {v : Value} {l : List Int} (h : QuI w v l) (hz : w.heap.size <= w'.heap.size) (hk : ∀ g, v.ownBlock = some g -> w'.heap[g]? = w.heap[g]?) : QuI w' v l := by
 obtain ⟨A, c, rfl, h1, h2, h3⟩ := h
 refine ⟨A, c, rfl, h1, h2, fun hp => ?_⟩
 obtain ⟨g, o, rfl, hg, ha, hb⟩ := h3 hp
 have hh := hk g rfl
 exact ⟨g, o, rfl, by omega, fun j hj => by rw [World.cell?_of_block (a := ⟨g, o + j, none⟩) hh, World.frozen?_of_block (a := ⟨g, o + j, none⟩) hh]; exact ha j hj, fun j x hx => (World.cell?_of_block (a := ⟨g, o + j, none⟩) hh).trans (hb j x hx)⟩
theorem QuI.one (w : World) (z : Int) : QuI (w.alloc (.cells #[.int .i64 z] 3)) (.slice (some ⟨w.heap.size, 0, none⟩) 1 1) [z] := by
 have hb := Box.new w #[.int .i64 z] 3
 refine ⟨_, 1, rfl, by simp, by simp [maxLen], fun _ => ⟨w.heap.size, 0, rfl, by simp, fun j hj => ?_, fun j x hx => ?_⟩⟩
 ·obtain rfl : j = 0 := by omega
  have := hb.cell 0 (v := .int .i64 z) rfl
  rw [Nat.add_zero, this.1, this.2]
  exact ⟨rfl, rfl⟩
 ·have hj : j = 0 := by
   have := (List.getElem?_eq_some_iff.1 hx).1
   simpa using this
  subst hj
  simp at hx
  subst hx
  exact (hb.cell 0 (v := .int .i64 z) rfl).1
theorem QuI.tail {w : World} {A : Option Addr} {n c : Nat} {z : Int} {l : List Int} (h : QuI w (.slice A n c) (z :: l)) : ∃ g o, A = some ⟨g, o, none⟩ /\ g < w.heap.size /\ n = l.length + 1 /\ n <= c /\ c <= maxLen /\ w.cell? ⟨g, o, none⟩ = some (.int .i64 z) /\
  QuI w (if c = 1 then .slice (some ⟨g, o, none⟩) l.length 0 else .slice (some ⟨g, o + 1, none⟩) l.length (c - 1)) l := by
 obtain ⟨A', c', e, h1, h2, h3⟩ := h
 injection e with e1 e2 e3
 subst e1; subst e2; subst e3
 simp only [List.length_cons] at h1
 obtain ⟨g, o, rfl, hg, ha, hb⟩ := h3 (by omega)
 refine ⟨g, o, rfl, hg, rfl, by simpa using h1, h2, by simpa using hb 0 z rfl, ?_⟩
 by_cases hc : c = 1
 ·rw [if_pos hc]
  have hl : l = [] := List.eq_nil_of_length_eq_zero (by omega)
  subst hl
  exact ⟨_, 0, rfl, Nat.le_refl _, by simp [maxLen], fun h => absurd h (by omega)⟩
 ·rw [if_neg hc]
  refine ⟨_, c - 1, rfl, by omega, by simp only [maxLen] at *; omega, fun _ => ⟨g, o + 1, rfl, hg, fun j hj => ?_, fun j x hx => ?_⟩⟩
  ·have := ha (j + 1) (by omega)
   rw [show o + 1 + j = o + (j + 1) by omega]
   exact this
  ·rw [show o + 1 + j = o + (j + 1) by omega]
   exact hb (j + 1) x (by simpa using hx)
theorem jjv (w : World) (b o : Nat) (v : Value) : w.setCells b o [v] = w.setCell ⟨b, o, none⟩ v := rfl
theorem jhh {P : Program} (w : World) (t ty e : TypeId) (i : TypeInfo) (ht : P.underlying t = some (.slice e)) (hi : P.info? e = some i) (hz : i.zero = some (.int .i64 0)) (hsize : i.size = 1) (hby : i.bytes = 8)
  {v : Value} {l : List Int} (h : QuI w v l) (H : Nat) (y : Int) (hH : w.cell? ⟨H, 0, none⟩ = some (.int .i64 y)) (hroom : l.length < 1000000) :
  ∃ v' w', (Builtin.append_ #[t, t] ty #[v, .slice (some ⟨H, 0, none⟩) 1 1]).run P w = .ok v' w' /\ QuI w' v' (l ++ [y]) /\ w.grownBy w' v.ownBlock /\ (v'.ownBlock = v.ownBlock \/ v'.ownBlock = some w.heap.size) := by
 obtain ⟨A, c, rfl, h1, h2, h3⟩ := h
 have hsrc : Src P i.size t (.slice (some ⟨H, 0, none⟩) 1 1) 1 [.int .i64 y] w := by
  rw [hsize]
  exact Src.ofSlice w ht ⟨H, 0, none⟩ 1 1 [.int .i64 y] rfl (fun j u hu => by
   have hj : j = 0 := by have := (List.getElem?_eq_some_iff.1 hu).1; simpa using this
   subst hj
   simp at hu
   subst hu
   rw [Addr.add_lit]
   simpa using hH) (by simp [Value.oneCell'])
 by_cases hc : l.length + 1 <= c
 ·obtain ⟨g, o, rfl, hg, ha, hb⟩ := h3 (by omega)
  have hr := run_append_room_src (P := P) w t t ty e i ht hi g o l.length c _ 1 _ hsrc hc (fun j hj => by
   have hj : j = 0 := by simpa using hj
   subst hj
   rw [hsize]
   simpa using (ha l.length (by omega)).1) (fun j hj => by
   have hj : j = 0 := by simpa using hj
   subst hj
   rw [hsize]
   simpa using (ha l.length (by omega)).2)
  rw [hsize, Nat.mul_one, jjv] at hr
  refine ⟨_, _, hr, ⟨_, c, by rw [List.length_append]; rfl, by simpa using hc, h2, fun _ => ⟨g, o, rfl, by rw [World.size_setCell]; exact hg, fun j hj => ?_, fun j x hx => ?_⟩⟩, ⟨rfl, rfl, rfl, by rw [World.size_setCell]; exact Nat.le_refl _, fun k hk hne => heap_setCell_other w ⟨g, o + l.length, none⟩ k _ (fun e => hne (by rw [e]; rfl))⟩, .inl rfl⟩
  ·refine ⟨?_, by rw [World.frozen?_setCell]; exact (ha j hj).2⟩
   by_cases hjl : j = l.length
   ·subst hjl
    obtain ⟨u, hu⟩ := Option.isSome_iff_exists.1 (ha _ hj).1
    rw [World.cell?_setCell_same _ _ _ hu]
    rfl
   ·rw [World.cell?_setCell_other _ _ _ _ (fun e => hjl (by injection e with _ e; omega))]
    exact (ha j hj).1
  ·by_cases hjl : j = l.length
   ·subst hjl
    obtain ⟨u, hu⟩ := Option.isSome_iff_exists.1 (ha l.length (by omega)).1
    rw [World.cell?_setCell_same _ _ _ hu]
    simp at hx
    rw [hx]
   ·rw [World.cell?_setCell_other _ _ _ _ (fun e => hjl (by injection e with _ e; omega))]
    have hj : j < l.length := by have := (List.getElem?_eq_some_iff.1 hx).1; simp at this; omega
    rw [List.getElem?_append_left hj] at hx
    exact hb j x hx
 ·obtain rfl : c = l.length := by omega
  have hold : (Builtin.firstCells i.size l.length (.slice A l.length l.length)).run P w.drew = .ok (l.map (Value.int .i64)).toArray w.drew := by
   rw [hsize]
   by_cases h0 : 0 < l.length
   ·obtain ⟨g, o, rfl, hg, ha, hb⟩ := h3 h0
    exact run_firstCells_some w.drew 1 l.length ⟨g, o, none⟩ l.length l.length _ (by simp) (fun j u hu => by
     rw [List.getElem?_map] at hu
     obtain ⟨x, hx, rfl⟩ := Option.map_eq_some_iff.1 hu
     rw [Addr.add_lit]
     exact hb j x hx)
   ·have hl : l = [] := List.eq_nil_of_length_eq_zero (by omega)
    subst hl
    cases A with
    | none => exact run_firstCells_none w.drew 1 0 0 0
    | some a => exact run_firstCells_some w.drew 1 0 a 0 0 [] (by simp) (by simp)
  have hr := run_append_grow_src (P := P) w t t ty e i _ ht hi hz A l.length l.length _ hold _ 1 _ hsrc (by omega) (by omega) (by
   have := nextslicecap_le (show l.length < l.length + 1 by omega)
   rw [hby]
   omega)
  have hge := grownCap_ge w (l.length + 1) l.length e
  have hcm := grownCap_le_maxLen w (l.length + 1) l.length e (by simp only [maxLen]; omega)
  generalize grownCap w (l.length + 1) l.length e = gc at *
  obtain ⟨cs, hcs⟩ : ∃ cs : Array Value, ((l.map (Value.int .i64) ++ [Value.int .i64 y]).toArray ++ Builtin.zeroCells (Value.int .i64 0).cells (gc - (l.length + 1))) = cs := ⟨_, rfl⟩
  have hlen : cs.size = gc := by
   rw [<- hcs, Array.size_append, size_zeroCells]
   simp [Value.cells]
   omega
  have hget : ∀ (j : Nat) (x : Int), (l ++ [y])[j]? = some x -> cs[j]? = some (Value.int .i64 x) := fun j x hx => by
   have hj := (List.getElem?_eq_some_iff.1 hx).1
   rw [<- hcs, Array.getElem?_append_left (by simpa using hj)]
   simp only [List.getElem?_toArray]
   rw [show l.map (Value.int .i64) ++ [Value.int .i64 y] = (l ++ [y]).map (Value.int .i64) by simp, List.getElem?_map, hx]
   rfl
  rw [hcs] at hr
  have hbx : Box (w.drew.alloc (.cells cs e)) w.heap.size cs e := Box.new w.drew cs e
  refine ⟨_, _, hr, ⟨_, gc, by rw [List.length_append]; rfl, by simpa using hge, hcm, fun _ => ⟨w.heap.size, 0, rfl, by simp, fun j hj => ?_, fun j x hx => ?_⟩⟩, ⟨rfl, rfl, rfl, by simp, fun k hk _ => heap_alloc_old w.drew _ hk⟩, .inr rfl⟩
  ·obtain ⟨u, hu⟩ : ∃ u, cs[j]? = some u := ⟨_, Array.getElem?_eq_getElem (by omega)⟩
   have := hbx.cell j hu
   rw [Nat.zero_add]
   exact ⟨by rw [this.1]; rfl, this.2⟩
  ·rw [Nat.zero_add]
   exact (hbx.cell j (hget j x hx)).1
theorem jfd {P : Program} (w : World) {ops : Array Oper} {rest : List Oper} {o : Oper} {a : Act} {Q : Exit -> Act -> World -> Prop} (hgd : o.guard = none) (s x : Operand) (t : TypeId)
  (ho : o.op = .call { callee := .builtin .append, args := #[s, x], argTypes := #[t, t] })
  (e : TypeId) (i : TypeInfo) (ht : P.underlying t = some (.slice e)) (hi : P.info? e = some i) (hz : i.zero = some (.int .i64 0)) (hsize : i.size = 1) (hby : i.bytes = 8)
  (v : Value) (l : List Int) (hs : a.eval s = v) (hq : QuI w v l) (H : Nat) (y : Int) (hH : w.cell? ⟨H, 0, none⟩ = some (.int .i64 y)) (hx : a.eval x = .slice (some ⟨H, 0, none⟩) 1 1) (hroom : l.length < 1000000)
  (h : ∀ v' w', QuI w' v' (l ++ [y]) -> w.grownBy w' v.ownBlock -> (v'.ownBlock = v.ownBlock \/ v'.ownBlock = some w.heap.size) -> wpList P ops Q rest (a.put o.dst v') w') : wpList P ops Q (o :: rest) a w := by
 refine wpList_plain hgd fun K hK => ?_
 obtain ⟨v', w', hrun, h2, h3, h4⟩ := jhh (P := P) w t o.type e i ht hi hz hsize hby hq H y hH hroom
 unfold Oper.wp execOp
 simp only [ho, resolve, invoke, builtin, Sem.run_bind, Sem.run_pure, Result.andThen_ok, List.map_toArray, List.map_cons, List.map_nil, hs, hx, hrun]
 exact hK _ _ (h v' w' h2 h3 h4)
def RH (v : Value) : Option (DataW Value × List MemPlace) := some (.held v, [])
def litN (k : Nat) : Lit := .int .i64 (k : Int)
def MapK (w : World) (M : Nat -> Prop) (b : Nat) (f : FunV) (L : Nat -> Option KSt) : Prop :=
 ∃ D n, w.ownsMap Tryz.prog 3 RH b n D /\ n + potK f L <= 10000 /\ (∀ kl, Maps.has D kl = true -> ∃ k : Nat, k < f.blocks.length /\ kl = litN k) /\ (∀ k : Nat, k < f.blocks.length -> Maps.has D (litN k) = (L k).isSome) /\ (∀ k : Nat, f.blocks.length <= k -> L k = none) /\
  ∀ k s, L k = some s -> ∃ v1 v2, (∀ zd, D.atKey (litN k) zd = .held (.agg #[v1, v2])) /\ SetM w M v1 s.1 /\ SetM w M v2 s.2
theorem jbe : Tryz.prog.underlying 137 = some (.map 3 119) := by kernel_rfl
theorem keyed_int : Keyed Tryz.prog 3 := int_keyed (q := .i64) (by kernel_rfl)
theorem jhp (w : World) : (zeroValue 119).run Tryz.prog w = .ok (.agg #[.slice none 0 0, .slice none 0 0]) w := by kernel_rfl
theorem lit_wf {k : Nat} (h : k <= 1000000) : (Lit.int .i64 (k : Int)).wf = true := WalkArith.wf_i64 (by omega)
theorem jj3 {k : Nat} (h : k <= 1000000) : keyOf Tryz.prog 3 (.int .i64 (k : Int)) = some (litN k) := keyOf_int_mk (q := .i64) (by kernel_rfl) (lit_wf h)
theorem jj4 {j k : Nat} (h : litN j = litN k) : j = k := by
 unfold litN at h
 injection h with _ h
 omega
theorem jpc {H : Type} {D : DataW H} {kl : Lit} (h : Maps.has D kl = false) (z : DataW H) (hD : IsMap D) : D.atKey kl z = z := atKey_of_not_has h z
section
variable {w w' : World} {M M' : Nat -> Prop} {b : Nat} {f : FunV} {L : Nat -> Option KSt}
theorem MapK.keep (h : MapK w M b f L) (hz : w.heap.size <= w'.heap.size) (hb : w'.heap[b]? = w.heap[b]?) (hk : ∀ k, k < w.heap.size -> ¬ M k -> w'.heap[k]? = w.heap[k]?) (hM : ∀ k, k < w.heap.size -> M' k -> M k) : MapK w' M' b f L := by
 obtain ⟨D, n, ⟨es, clock, h1, h2, h3, h4⟩, hn, hh, hL, ho, hv⟩ := h
 refine ⟨D, n, ⟨es, clock, hb.trans h1, h2, h3, h4⟩, hn, hh, hL, ho, fun k s hs => ?_⟩
 obtain ⟨v1, v2, e, a1, a2⟩ := hv k s hs
 exact ⟨v1, v2, e, a1.keep hz hk hM, a2.keep hz hk hM⟩
theorem MapK.put {D : DataW Value} {n c : Nat} {s : KSt} {v1 v2 : Value} (hown : w'.ownsMap Tryz.prog 3 RH b (n + 1) (D.put (litN c) (.held (.agg #[v1, v2])))) (hD : IsMap D) (hg : w.grownBy w' (some b)) (hb : M b) (hn : n + potK f L <= 10000) (hp : potK f (updK L c s) < potK f L)
  (hh : ∀ kl, Maps.has D kl = true -> ∃ k : Nat, k < f.blocks.length /\ kl = litN k) (hL : ∀ k : Nat, k < f.blocks.length -> Maps.has D (litN k) = (L k).isSome) (ho : ∀ k : Nat, f.blocks.length <= k -> L k = none)
  (hv : ∀ k s, L k = some s -> ∃ v1 v2, (∀ zd, D.atKey (litN k) zd = .held (.agg #[v1, v2])) /\ SetM w M v1 s.1 /\ SetM w M v2 s.2) (hc : c < f.blocks.length) (hc2 : c <= 1000000) (h1 : SetM w M v1 s.1) (h2 : SetM w M v2 s.2) : MapK w' M b f (updK L c s) := by
 have hkey : WideAt.IsKeyLit (litN c) := keyed_int.key (jj3 hc2)
 have hk : ∀ k, k < w.heap.size -> ¬ M k -> w'.heap[k]? = w.heap[k]? := fun k hk hm => hg.block k hk (fun e => hm (by injection e with e; rw [e]; exact hb))
 refine ⟨_, _, hown, by omega, fun kl hx => ?_, fun k hk' => ?_, fun k hk' => ?_, fun k t ht => ?_⟩
 ·by_cases e : kl = litN c
  ·exact ⟨c, hc, e⟩
  ·rw [has_put_other e] at hx
   exact hh kl hx
 ·by_cases e : k = c
  ·subst e
   rw [has_put_same hD hkey, jb8]
   rfl
  ·rw [has_put_other (fun h => e (jj4 h)), jan e]
   exact hL k hk'
 ·rw [jan (by omega)]
  exact ho k hk'
 ·by_cases e : k = c
  ·subst e
   rw [jb8] at ht
   cases ht
   exact ⟨v1, v2, fun zd => atKey_put_same hD hkey _ _, h1.keep hg.size hk (fun _ _ h => h), h2.keep hg.size hk (fun _ _ h => h)⟩
  ·rw [jan e] at ht
   obtain ⟨u1, u2, e', a1, a2⟩ := hv k t ht
   exact ⟨u1, u2, fun zd => by rw [atKey_put_other (fun h => e (jj4 h))]; exact e' zd, a1.keep hg.size hk (fun _ _ h => h), a2.keep hg.size hk (fun _ _ h => h)⟩
end
theorem jqm {f : FunV} (hk : KOk f) (L : Nat -> Option KSt) : potK f L <= 4000 := by
 have h1 := hk.flow.1
 have h2 := hk.kinds
 have h : ∀ n, ((List.range n).map (fun b => potS f (L b))).sum <= n * 97 := fun n => by
  induction n with
  | zero => simp
  | succ n ih =>
   rw [List.range_succ, List.map_append, List.sum_append]
   have : potS f (L n) <= 97 := by
    cases hL : L n with
    | none => simp only [potS]; omega
    | some s => have := jis f s; omega
   simp only [List.map_cons, List.map_nil, List.sum_cons, List.sum_nil]
   omega
 have := h f.blocks.length
 unfold potK
 have h3 : f.blocks.length * 97 <= 40 * 97 := Nat.mul_le_mul_right _ h1
 omega
end Go.Proofs.YthbnbaikdcfbmaaGreatDoor
