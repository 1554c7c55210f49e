/- Layer 13, the program: a list of edges without those that a closure names: slices.IndexFunc, slices.DeleteFunc; counts in memory. No condition but on lengths. -/
import Derived.Test.YtnoknodijombpaaDoorPhDC
import Derived.Laws.CopyOwn
set_option linter.unusedSimpArgs false
set_option linter.unusedVariables false
namespace Go.Proofs.YtnoknodijombpaaDoor
open Go.RowKit

def edgC (p : Int × Int) : List Value := [Value.int .i64 p.1, Value.int .i64 p.2]
theorem OwE.c {w : World} {base : Nat} {v : Value} {es : List (Int × Int)} (h : OwE w base v es) : OwC edgC 46 2 w base v es := h
theorem OwC.e {w : World} {base : Nat} {v : Value} {es : List (Int × Int)} (h : OwC edgC 46 2 w base v es) : OwE w base v es := h
/-- All blocks but the own one are as they were. -/
structure FrG (own : Option Nat) (w w' : World) : Prop where
  os : w'.os = w.os
  tape : w'.tape = w.tape
  output : w'.output = w.output
  size : w.heap.size ≤ w'.heap.size
  block : ∀ k, k < w.heap.size → own ≠ some k → w'.heap[k]? = w.heap[k]?
section
variable {own : Option Nat} {w w1 w2 : World}
theorem FrG.refl (own : Option Nat) (w : World) : FrG own w w := ⟨rfl, rfl, rfl, Nat.le_refl _, fun _ _ _ => rfl⟩
theorem FrG.of_below (h : Below w.heap.size w w1) : FrG own w w1 := ⟨h.os, h.tape, h.output, h.size, fun k hk _ => h.block k hk⟩
theorem FrG.trans (h : FrG own w w1) (h2 : FrG own w1 w2) : FrG own w w2 := ⟨h2.os.trans h.os, h2.tape.trans h.tape, h2.output.trans h.output, Nat.le_trans h.size h2.size, fun k hk ho => (h2.block k (Nat.lt_of_lt_of_le hk h.size) ho).trans (h.block k hk ho)⟩
theorem FrG.set {g o : Nat} {v : Value} (h : FrG (some g) w w1) : FrG (some g) w (w1.setCell ⟨g, o, none⟩ v) := ⟨h.os, h.tape, h.output, by rw [World.size_setCell]; exact h.size, fun k hk ho => (heap_setCell_other w1 ⟨g, o, none⟩ k v (fun e => ho (by rw [e]))).trans (h.block k hk ho)⟩
theorem FrG.below {base : Nat} (h : FrG own w w1) (hb : base ≤ w.heap.size) (hg : ∀ g, own = some g → base ≤ g) : Below base w w1 := ⟨h.os, h.tape, h.output, h.size, fun k hk => h.block k (by omega) (fun e => by have := hg k e; omega)⟩
theorem FrG.box {k : Nat} {cs : Array Value} {T : TypeId} (h : FrG own w w1) (b : Box w k cs T) (hk : own ≠ some k) : Box w1 k cs T := (h.block k b.lt hk).trans b
end
/-- n counts in a block. -/
def CntM (w : World) (g n : Nat) (F : Nat → Nat) : Prop := Box w g ((List.range n).map fun a => Value.int .i64 ((F a : Nat) : Int)).toArray 3
theorem CntM.cell {w : World} {g n k : Nat} {F : Nat → Nat} (h : CntM w g n F) (hk : k < n) : w.cell? ⟨g, k, none⟩ = some (.int .i64 (F k : Int)) ∧ w.frozen? ⟨g, k, none⟩ = false :=
  Box.cell h k (by simp [hk])
theorem CntM.set {w : World} {g n k m : Nat} {F G : Nat → Nat} (h : CntM w g n F) (hG : ∀ a, a < n → G a = if a = k then m else F a) : CntM (w.setCell ⟨g, k, none⟩ (.int .i64 (m : Int))) g n G := by
  have t := Box.set h k (.int .i64 (m : Int))
  unfold CntM
  have e : ((List.range n).map fun a => Value.int .i64 ((F a : Nat) : Int)).toArray.setIfInBounds k (.int .i64 (m : Int)) = ((List.range n).map fun a => Value.int .i64 ((G a : Nat) : Int)).toArray := by
    rw [List.setIfInBounds_toArray]
    congr 1
    refine List.ext_getElem? fun j => ?_
    rw [List.getElem?_set, List.getElem?_map, List.getElem?_map]
    by_cases hj : j < n
    · rw [List.getElem?_range hj]
      by_cases e : k = j
      · subst e
        simp [hj, hG k hj]
      · rw [if_neg e]
        have e2 : ¬ j = k := fun h => e h.symm
        simp [hG j hj, e2]
    · have h1 : (List.range n)[j]? = none := List.getElem?_eq_none (by simp; omega)
      rw [h1]
      split
      · simp
        omega
      · rfl
  rw [e] at t
  exact t
theorem CntM.zero {w : World} {g n : Nat} {mc : Array Value} (hmc : mc = (List.replicate n (Value.int .i64 0)).toArray) (h : Box w g mc 3) : CntM w g n fun _ => 0 := by
  unfold CntM
  have e : (List.range n).map (fun _ => Value.int .i64 (((0 : Nat)) : Int)) = List.replicate n (Value.int .i64 0) := by
    rw [List.map_const']
    simp
  rw [e, ← hmc]
  exact h
/-- clear(s[k:]), s the call's own edges, k below its length. -/
theorem run_clear_edges {P : Program} (w : World) (t ty : TypeId) (elem : TypeId) (ht : P.underlying t = some (.slice elem)) (hz : ∀ W, Sem.run P (zeroValue elem) W = .ok (.agg #[.int .i64 0, .int .i64 0]) W)
    (base g k n c m cc : Nat) (hm : k + m = n) (hm0 : 0 < m) (ys : List (Int × Int)) (hn : ys.length = n) (how : OwE w base (.slice (some ⟨g, 0, none⟩) n c) ys) :
    ∃ w', Sem.run P (Builtin.clear_ #[t] ty #[.slice (some ⟨g, k * 2, none⟩) m cc]) w = .ok (.tuple #[]) w' ∧ OwE w' base (.slice (some ⟨g, 0, none⟩) k c) (ys.take k) ∧ w.grownBy w' (some g) := by
  obtain ⟨m, rfl⟩ : ∃ j, m = j + 1 := ⟨m - 1, by omega⟩
  subst hn
  rcases how.2 with ⟨h1, -⟩ | ⟨g', cap, cur, hv, hg, hh, hnc, hcm, hsz, htake⟩
  · cases h1
  injection hv with h1 h2 h3
  injection h1 with h1
  injection h1 with h1
  subst h1; subst h3
  obtain ⟨xs, hxs⟩ : ∃ xs, (Builtin.zeroCells (Value.agg #[.int .i64 0, .int .i64 0]).cells (m + 1)).toList = xs := ⟨_, rfl⟩
  have hlen : xs.length = (m + 1) * 2 := by
    rw [← hxs, Array.length_toList, size_zeroCells]
    rfl
  have hone : ∀ u ∈ xs, u.oneCell' = true := by
    intro u hu
    rw [← hxs] at hu
    unfold Builtin.zeroCells at hu
    simp only [Array.toList_map, List.mem_map] at hu
    obtain ⟨i, -, rfl⟩ := hu
    have : i % (Value.agg #[.int .i64 0, .int .i64 0]).cells.size = 0 ∨ i % (Value.agg #[.int .i64 0, .int .i64 0]).cells.size = 1 := by
      have h2 : (Value.agg #[.int .i64 0, .int .i64 0]).cells.size = 2 := rfl
      rw [h2]
      omega
    rcases this with h | h <;> rw [h] <;> rfl
  have hst := Go.run_storeCells_at P g (k * 2) 46 xs 0 cur w hh (by rw [hlen, hsz]; omega) hone
  have hrun : (Builtin.clear_ #[t] ty #[.slice (some ⟨g, k * 2, none⟩) (m + 1) cc]).run P w = .ok (.tuple #[]) (w.setRow g (cur.toList.take (k * 2 + 0) ++ xs ++ cur.toList.drop (k * 2 + 0 + xs.length)).toArray) := by
    simp [Builtin.clear_, run_underlying ht, hz, hxs, hst, Result.andThen]
  refine ⟨_, hrun, ?_, ⟨rfl, rfl, rfl, by simp, fun j _ hj => setRow_other w g j _ (fun e => hj (by simp [e]))⟩⟩
  have hk : k ≤ ys.length := by omega
  refine ⟨by rw [eCells_len, List.length_take, Nat.min_eq_left hk], .inr ⟨g, c, _, by rw [List.length_take, Nat.min_eq_left hk], hg, setRow_heap w g cur _ _ _ hh, by rw [List.length_take]; omega, hcm, ?_, ?_⟩⟩
  · simp only [Nat.add_zero, hlen, List.size_toArray, List.length_append, List.length_take, List.length_drop, Array.length_toList, hsz]
    omega
  · have e : eCells (ys.take k) = (eCells ys).take (k * 2) := by
      have h2 : eCells ys = eCells (ys.take k) ++ eCells (ys.drop k) := by
        unfold eCells
        rw [← List.flatMap_append, List.take_append_drop]
      have h3 : (eCells (ys.take k)).length = k * 2 := by rw [eCells_len, List.length_take, Nat.min_eq_left hk]
      rw [h2, ← h3, List.take_left]
    simp only [Nat.add_zero] at *
    rw [e, List.length_take, Nat.min_eq_left hk, List.append_assoc, List.take_append_of_le_length (by rw [List.length_take, Array.length_toList, hsz]; omega), List.take_take, Nat.min_self, ← htake, List.take_take, Nat.min_eq_left (by omega)]
/-- What is kept among the first b edges stands in front. -/
structure DelI (q : Int × Int → Bool) (es : List (Int × Int)) (n a b : Nat) (ys : List (Int × Int)) : Prop where
  len : ys.length = n
  lt : a < b
  front : ys.take a = (es.take b).filter (fun e => !q e)
  rest : ∀ t, b ≤ t → ys[t]? = es[t]?
section
variable {q : Int × Int → Bool} {es : List (Int × Int)} {n a b : Nat} {ys : List (Int × Int)} {e : Int × Int}
theorem DelI.start {i : Nat} (hn : es.length = n) (h0 : ∀ j, j < i → ∀ e, es[j]? = some e → q e = false) (he : es[i]? = some e) (hq : q e = true) : DelI q es n i (i + 1) es := by
  refine ⟨hn, by omega, ?_, fun _ _ => rfl⟩
  rw [List.take_add_one, he, List.filter_append, List.filter_eq_self.2 (fun x hx => by
    obtain ⟨j, hj⟩ := List.getElem?_of_mem hx
    rw [List.getElem?_take] at hj
    split at hj
    · rename_i h
      rw [h0 j h x hj]; rfl
    · cases hj)]
  simp [hq]
theorem DelI.skip (h : DelI q es n a b ys) (he : es[b]? = some e) (hq : q e = true) : DelI q es n a (b + 1) ys := by
  refine ⟨h.len, by have := h.lt; omega, ?_, fun t ht => h.rest t (by omega)⟩
  rw [h.front, List.take_add_one, he, List.filter_append]
  simp [hq]
theorem DelI.keep (h : DelI q es n a b ys) (he : es[b]? = some e) (hq : q e = false) (hb : b < n) : DelI q es n (a + 1) (b + 1) (ys.set a e) := by
  have hal : a < ys.length := by have := h.len; have := h.lt; omega
  refine ⟨by rw [List.length_set, h.len], by have := h.lt; omega, ?_, fun t ht => ?_⟩
  · rw [List.take_add_one, List.getElem?_set, if_pos rfl, if_pos hal, List.take_set_of_le (Nat.le_refl _), h.front, List.take_add_one, he, List.filter_append]
    simp [hq]
  · rw [List.getElem?_set, if_neg (by have := h.lt; omega)]
    exact h.rest t (by omega)
theorem DelI.done (h : DelI q es n a b ys) (hb : es.length ≤ b) : ys.take a = es.filter (fun e => !q e) := by rw [h.front, List.take_of_length_le hb]
end
/-- What slices.IndexFunc answers. -/
def IdxA (q : Int × Int → Bool) (es : List (Int × Int)) (w : World) (e : Ending) (w' : World) : Prop := ∃ z : Int, e = .returned (.int .i64 z) ∧ Below w.heap.size w w' ∧ ((z = -1 ∧ ∀ e ∈ es, q e = false) ∨ ∃ i : Nat, z = i ∧ i < es.length ∧ (∀ j, j < i → ∀ e, es[j]? = some e → q e = false) ∧ ∀ e, es[i]? = some e → q e = true)
set_option maxHeartbeats 2000000 in
set_option maxRecDepth 100000 in
theorem eindex_any (g1 g2 : Nat) (q : Int × Int → Bool) (es : List (Int × Int)) (Ae : Option Addr) (ce : Nat) (w : World) (hn : es.length ≤ 1000) (hs : EdgS w w.heap.size Ae es)
    (hq : ∀ (W : World), Below w.heap.size w W → ∀ e ∈ es, Calls Tryd.prog 15 #[.agg #[.int .i64 e.1, .int .i64 e.2], .pointer (some ⟨g1, 0, none⟩), .pointer (some ⟨g2, 0, none⟩)] W fun x w' => x = .returned (.bool (q e)) ∧ Below W.heap.size W w') :
    Calls Tryd.prog 28 #[.slice Ae es.length ce, .func (.func 15) #[] #[.pointer (some ⟨g1, 0, none⟩), .pointer (some ⟨g2, 0, none⟩)]] w (IdxA q es w) := by
  have HQ := hide hq
  have HS := hide hs
  obtain ⟨n, hn'⟩ : ∃ n, es.length = n := ⟨_, rfl⟩
  have HN := hide hn'
  rw [hn'] at hn ⊢
  clear hq hs hn'
  go_enter Tryd.func28, Tryd.ntmps28
  go_wp2
  go_loopw [8] (fun i wr => ∃ k : Nat, k ≤ n ∧ i = .int .i64 (k : Int) ∧ Below w.heap.size w wr ∧ Hid (∀ j, j < k → ∀ e, es[j]? = some e → q e = false)) (fun i _ => n - (intOf i).toNat)
  case atStart => exact ⟨0, Nat.zero_le _, rfl, Below.refl _ _, hide (fun j hj => by omega)⟩
  case round =>
    obtain ⟨k, hk, rfl, hb, HNO⟩ := hrel
    obtain ⟨wo, rfl⟩ : ∃ wo, wo = wr := ⟨_, rfl⟩
    have hsz := hb.size
    have HB := hide hb
    clear hb
    by_cases hlt : k < n
    case neg =>
      obtain rfl : n = k := by omega
      have hnl : ¬ ((n : Int) < (n : Int)) := by omega
      go_wp2
      go_ret
      exact ⟨-1, rfl, HB.out, .inl ⟨rfl, fun e he => by
        obtain ⟨j, hj⟩ := List.getElem?_of_mem he
        exact HNO.out j (by have := (List.getElem?_eq_some_iff.1 hj).1; have := HN.out; omega) e hj⟩⟩
    have HLT := hide hlt
    obtain ⟨y, hy⟩ : ∃ y, es[k]? = some y := ⟨_, List.getElem?_eq_getElem (by have := HN.out; omega)⟩
    obtain ⟨be, oe, rfl, hbe, hce'⟩ := HS.out (by have := HN.out; omega)
    obtain ⟨y1, y2⟩ := hce' k y hy
    have d1 := (HB.out.cell (p := ⟨be, oe + k * 2, none⟩) hbe).trans y1
    have d2 := (HB.out.cell (p := ⟨be, oe + k * 2 + 1, none⟩) hbe).trans y2
    have hbs : be < wo.heap.size := by omega
    have HY := hide hy
    have HQK := hide (HQ.out wo HB.out y (List.mem_of_getElem? hy))
    have hk0 : (0 : Int) ≤ (k : Int) := by omega
    have hk1 : (k : Int) < (n : Int) := by omega
    obtain ⟨ya, yb⟩ := y
    simp only at d1 d2
    clear hce' y1 y2 hy
    cases hqv : q (ya, yb) with
    | true =>
      have HQV := hide hqv
      rw [hqv] at HQK
      clear hqv
      go_wp2_with (go_at_call 15; refine HQK.out.mono ?_; rintro e w5 ⟨rfl, hb5⟩; have HB5 := hide (HB.out.trans (hb5.mono hsz)); clear hb5)
      go_ret
      exact ⟨(k : Int), rfl, HB5.out, .inr ⟨k, rfl, by have := HLT.out; have := HN.out; omega, HNO.out, fun e he => by rw [HY.out] at he; injection he with he; subst he; exact HQV.out⟩⟩
    | false =>
      have HQV := hide hqv
      rw [hqv] at HQK
      clear hqv
      have HN2 := hide (show ∀ j, j < k + 1 → ∀ e, es[j]? = some e → q e = false from fun j hj e he => by
        by_cases h : j < k
        · exact HNO.out j h e he
        · obtain rfl : j = k := by omega
          rw [HY.out] at he
          injection he with he
          subst he
          exact HQV.out)
      go_wp2_with (go_at_call 15; refine HQK.out.mono ?_; rintro e w5 ⟨rfl, hb5⟩; have HB5 := hide (HB.out.trans (hb5.mono hsz)); clear hb5)
      go_roundw
      case rel => exact ⟨k + 1, by have := HLT.out; omega, by go_num, HB5.out, HN2⟩
      case measure => have := HLT.out; simp [intOf]; omega
end Go.Proofs.YtnoknodijombpaaDoor
