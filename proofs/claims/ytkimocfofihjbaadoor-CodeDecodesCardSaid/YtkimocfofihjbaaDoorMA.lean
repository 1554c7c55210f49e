/- Words for slices of integers in memory: what a slice value reads as ('Sl'), what the call owns ('Ow'), and append onto it. No condition. -/
import Derived.WalkKit
import Derived.LoopTactic
import Derived.Deep.Draws
import Derived.Deep.AppendLies
import Derived.Laws.AppendOwnNone
import Derived.Test.YtkimocfofihjbaaDoorRows
import Derived.RowKitTokens
set_option linter.unusedSimpArgs false
set_option linter.unusedVariables false
namespace Go.Proofs.YtkimocfofihjbaaDoor
open Go.RowKit

theorem ret_int {k : IntKind} {a b : Int} (h : a = b) : Ending.returned (.int k a) = .returned (.int k b) := by rw [h]
theorem ret_bool {a b : Bool} (h : a = b) : Ending.returned (.bool a) = .returned (.bool b) := by rw [h]
theorem hide {p : Prop} (h : p) : Hid p := h

/-- The slice whose address is A holds the numbers zs, in a block below B. -/
def Sl (w : World) (B : Nat) (k : IntKind) (A : Option Addr) (zs : List Int) : Prop :=
  0 < zs.length → ∃ b o, A = some ⟨b, o, none⟩ ∧ b < B ∧ ∀ j : Nat, j < zs.length → w.cell? ⟨b, o + j, none⟩ = some (.int k (zs.getD j 0))

section
variable {w w' : World} {B B' : Nat} {k : IntKind} {A : Option Addr} {zs : List Int}
theorem Sl.nil (w : World) (B : Nat) (k : IntKind) (A : Option Addr) : Sl w B k A [] := fun h => absurd h (by simp)
theorem Sl.keep (h : Sl w B k A zs) (hk : ∀ p : Addr, p.block < B → w'.cell? p = w.cell? p) : Sl w' B k A zs := fun hp => by
  obtain ⟨b, o, e, hb, hc⟩ := h hp
  exact ⟨b, o, e, hb, fun j hj => (hk _ hb).trans (hc j hj)⟩
theorem Sl.more (h : Sl w B k A zs) (hB : B ≤ B') : Sl w B' k A zs := fun hp => by
  obtain ⟨b, o, e, hb, hc⟩ := h hp
  exact ⟨b, o, e, by omega, hc⟩
theorem Sl.below (h : Sl w B k A zs) (hb : Below B w w') : Sl w' B k A zs := h.keep fun _ hp => hb.cell hp
theorem Sl.drewN (h : Sl w B k A zs) (q : Nat) : Sl (w.drewN q) B k A zs := h
theorem Sl.alloc (h : Sl w B k A zs) (hB : B ≤ w.heap.size) (o : Obj) : Sl (w.alloc o) B k A zs := h.keep fun p hp => World.cell?_alloc_lt w o p (by omega)
theorem getD_drop (zs : List Int) (i j : Nat) : (zs.drop i).getD j 0 = zs.getD (i + j) 0 := by simp [List.getD]
/-- A slice that is written out: a new block. -/
theorem Sl.lit (w : World) (e : TypeId) (k : IntKind) (cs : Array Value) (zs : List Int) (h : cs.toList = zs.map (Value.int k)) : Sl (w.alloc (.cells cs e)) (w.heap.size + 1) k (some ⟨w.heap.size, 0, none⟩) zs := fun _ => by
  refine ⟨w.heap.size, 0, rfl, by omega, fun j hj => ?_⟩
  rw [cell_of_row (w.alloc (.cells cs e)) w.heap.size (0 + j) cs e (0, 0) (heap_alloc_new w _), ← Array.getElem?_toList, h]
  simp [List.getD, hj]
/-- What is cut off at the front, in whichever of the two ways Go writes the address. -/
theorem Sl.drop (h : Sl w B k A zs) {i : Nat} {A' : Option Addr} (hA : i < zs.length → ∀ b o, A = some ⟨b, o, none⟩ → A' = some ⟨b, o + i, none⟩) : Sl w B k A' (zs.drop i) := fun hp => by
  have hi : i < zs.length := by simp at hp; omega
  obtain ⟨b, o, e, hb, hc⟩ := h (by omega)
  refine ⟨b, o + i, hA hi b o e, hb, fun j hj => ?_⟩
  rw [List.length_drop] at hj
  rw [getD_drop, Nat.add_assoc]
  exact hc (i + j) (by omega)
theorem Sl.take (h : Sl w B k A zs) (i : Nat) : Sl w B k A (zs.take i) := fun hp => by
  have hi : 0 < zs.length := by simp at hp; omega
  obtain ⟨b, o, e, hb, hc⟩ := h hi
  refine ⟨b, o, e, hb, fun j hj => ?_⟩
  have hj' : j < i ∧ j < zs.length := by rw [List.length_take] at hj; omega
  rw [hc j hj'.2]
  simp [List.getD, List.getElem?_take, hj'.1]
end

theorem below_drewN {B : Nat} {a w : World} (h : Below B a w) (n : Nat) : Below B a (w.drewN n) := ⟨h.os, h.tape, h.output, h.size, h.block⟩
/-- The slice value v is the call's own, from block 'base' on, and holds the numbers zs. -/
def Ow (w : World) (base : Nat) (e : TypeId) (k : IntKind) (v : Value) (zs : List Int) : Prop := w.ownsRow base e 1 v zs.length (zs.map (Value.int k))

section
variable {w w' : World} {base : Nat} {e : TypeId} {k : IntKind} {v : Value} {zs : List Int}
theorem Ow.nil (w : World) (base : Nat) (e : TypeId) (k : IntKind) : Ow w base e k (.slice none 0 0) [] := World.ownsRow_nil _ _ _ _
theorem Ow.alloc (h : Ow w base e k v zs) (o : Obj) : Ow (w.alloc o) base e k v zs := World.ownsRow.alloc h o
theorem Ow.drewN (h : Ow w base e k v zs) (q : Nat) : Ow (w.drewN q) base e k v zs := h
theorem Ow.lower (h : Ow w base e k v zs) {b : Nat} (hb : b ≤ base) : Ow w b e k v zs := by
  refine ⟨h.1, ?_⟩
  rcases h.2 with h2 | ⟨g, cap, cur, hv, hg, r⟩
  · exact .inl h2
  · exact .inr ⟨g, cap, cur, hv, by omega, r⟩
theorem Ow.sl (h : Ow w base e k v zs) : ∃ A c, v = .slice A zs.length c ∧ zs.length ≤ c ∧ c ≤ maxLen ∧ Sl w w.heap.size k A zs := by
  rcases h.2 with ⟨rfl, h0⟩ | ⟨g, cap, cur, rfl, hg, hh, hnc, hcm, hsz, htake⟩
  · have hz : zs = [] := List.eq_nil_of_length_eq_zero h0
    subst hz
    exact ⟨none, 0, rfl, Nat.le_refl _, by simp [maxLen], Sl.nil _ _ _ _⟩
  · refine ⟨_, _, rfl, hnc, hcm, fun hp => ⟨g, 0, rfl, (Array.getElem?_eq_some_iff.1 hh).1, fun j hj => ?_⟩⟩
    rw [Nat.zero_add, World.ownsRow.cellAt h j (by omega)]
    simp [List.getD, List.getElem?_eq_getElem hj]
/-- Kept by whatever turns nothing below the heap's size. -/
theorem Ow.below (h : Ow w base e k v zs) (hb : Below w.heap.size w w') : Ow w' base e k v zs := by
  refine ⟨h.1, ?_⟩
  rcases h.2 with h2 | ⟨g, cap, cur, hv, hg, hh, r⟩
  · exact .inl h2
  · exact .inr ⟨g, cap, cur, hv, hg, (hb.block g (Array.getElem?_eq_some_iff.1 hh).1).trans hh, r⟩
end

theorem take_step {xs ys : List Int} {k : Nat} {x : Int} (h : xs.take k = ys.take k) (hx : xs[k]? = some x) (hy : ys[k]? = some x) : xs.take (k + 1) = ys.take (k + 1) := by
  rw [List.take_add_one, List.take_add_one, h, hx, hy]
theorem ints_one (k : IntKind) (zs : List Int) : ∀ u ∈ zs.map (Value.int k), u.oneCell' = true := ints_oneCell k zs

section
variable {P : Program} (w : World)
/-- append(v, x..), v the call's own, x a slice that reads as 'news', nil or not. -/
theorem wpList_append_sl {ops : Array Oper} {rest : List Oper} {o : Oper} {a : Act} {Q : Exit → Act → World → Prop} (hgd : o.guard = none) (s x : Operand) (t : TypeId)
    (ho : o.op = .call { callee := .builtin .append, args := #[s, x], argTypes := #[t, t] })
    (base : Nat) (e : TypeId) (k : IntKind) (i : TypeInfo) (z : Value) (bytes : Nat) (ht : P.underlying t = some (.slice e)) (hi : P.info? e = some i) (hz : i.zero = some z)
    (hsize : i.size = 1) (hby : i.bytes = bytes) (hzs : z.cells.size = 1) (hb8 : bytes ≤ 8)
    (v : Value) (zs : List Int) (hs : a.eval s = v) (hown : Ow w base e k v zs)
    (B : Nat) (A : Option Addr) (m c : Nat) (news : List Int) (hx : a.eval x = .slice A m c) (hm : news.length = m) (hr : Sl w B k A news)
    (hroom : zs.length + m ≤ 1099511627776) (hbase : base ≤ w.heap.size)
    (h : ∀ v' w', Ow w' base e k v' (zs ++ news) → Below base w w' → wpList P ops Q rest (a.put o.dst v') w') : wpList P ops Q (o :: rest) a w := by
  subst hm
  refine wpList_plain hgd fun K hK => ?_
  have key : ∃ v' w', (Builtin.append_ #[t, t] o.type #[v, .slice A news.length c]).run P w = .ok v' w' ∧ Ow w' base e k v' (zs ++ news) ∧ Below base w w' := by
    by_cases h0 : news = []
    · subst h0
      refine ⟨v, w, ?_, by simpa using hown, Below.refl _ _⟩
      rcases hown.2 with ⟨rfl, _⟩ | ⟨g, cap, cur, rfl, _, _, hnc, _⟩
      · cases A <;> simp [Builtin.append_, run_underlying ht, sizeOf, typeInfo, hi, Builtin.lenOf, Builtin.firstCells, loadCells, loadCellsFrom]
      · cases A <;> simp [Builtin.append_, run_underlying ht, sizeOf, typeInfo, hi, Builtin.lenOf, Builtin.firstCells, hnc, storeCells, loadCells, loadCellsFrom]
        all_goals simp [List.length_map] at hnc
        all_goals first | omega | (simp [storeCells])
    · obtain ⟨b, off, rfl, _, hc⟩ := hr (List.length_pos_iff.2 h0)
      obtain ⟨v', w', hrun, h2, h3, _⟩ := run_append_own (P := P) w base t o.type e i z 1 bytes ht hi hz hsize hby hzs (by omega) v zs.length (zs.map (Value.int k)) hown ⟨b, off, none⟩ news.length c (news.map (Value.int k)) (by simp)
        (fun j u hu => by
          have hj : j < news.length := by have := (List.getElem?_eq_some_iff.1 hu).1; simpa using this
          rw [Addr.add_lit, hc j hj]
          rw [← hu]
          simp [List.getD, hj]) (ints_one k news) (by simp only [maxLen]; omega)
        (by have : (zs.length + news.length) * bytes ≤ 1099511627776 * 8 := Nat.mul_le_mul hroom hb8; omega) hbase
      refine ⟨v', w', hrun, by unfold Ow; simpa using h2, (Below.refl _ _).grown h3 hbase fun g hg => (World.ownsRow.lt hown g hg).1⟩
  obtain ⟨v', w', hrun, h2, h3⟩ := key
  unfold Oper.wp execOp
  simp only [ho, resolve, invoke, builtin, Sem.run_bind, Sem.run_pure, Result.andThen_ok, List.map_toArray, List.map_cons, List.map_nil, hs, hx, hrun]
  exact hK _ _ (h v' w' h2 h3)

/-- append(v, y), v the call's own: y lies in a new block of one cell. -/
theorem wpList_append_one {ops : Array Oper} {rest : List Oper} {o : Oper} {a : Act} {Q : Exit → Act → World → Prop} (hgd : o.guard = none) (s x : Operand) (t : TypeId)
    (ho : o.op = .call { callee := .builtin .append, args := #[s, x], argTypes := #[t, t] })
    (base : Nat) (e : TypeId) (k : IntKind) (i : TypeInfo) (z : Value) (bytes : Nat) (ht : P.underlying t = some (.slice e)) (hi : P.info? e = some i) (hz : i.zero = some z)
    (hsize : i.size = 1) (hby : i.bytes = bytes) (hzs : z.cells.size = 1) (hb8 : bytes ≤ 8)
    (v : Value) (zs : List Int) (hs : a.eval s = v) (hown : Ow w base e k v zs) (y : Int)
    (hx : a.eval x = .slice (some ⟨w.heap.size, 0, none⟩) 1 1)
    (hroom : zs.length < 1099511627776) (hbase : base ≤ w.heap.size)
    (h : ∀ v' w', Ow w' base e k v' (zs ++ [y]) → Below base w w' → wpList P ops Q rest (a.put o.dst v') w') : wpList P ops Q (o :: rest) a (w.alloc (.cells #[.int k y] e)) :=
  wpList_append_sl (w.alloc (.cells #[.int k y] e)) hgd s x t ho base e k i z bytes ht hi hz hsize hby hzs hb8 v zs hs (hown.alloc _) (w.heap.size + 1) (some ⟨w.heap.size, 0, none⟩) 1 1 [y] hx rfl
    (fun _ => ⟨w.heap.size, 0, rfl, by omega, fun j hj => by
      have : j = 0 := by simpa using hj
      subst this
      simp⟩) (by omega) (by simp; omega) (fun v' w' h1 h2 => h v' w' h1 (((Below.refl _ _).alloc hbase _).trans h2))
end
end Go.Proofs.YtkimocfofihjbaaDoor
namespace Go.Proofs.YtkimocfofihjbaaDoor

/-- A number's bytes, seven bits each, the lowest first. -/
def enc (u : Nat) : List Int := if u < 128 then [(u : Int)] else ((u % 128 + 128 : Nat) : Int) :: enc (u / 128)
  termination_by u

theorem enc_lo {u : Nat} (h : u < 128) : enc u = [(u : Int)] := by rw [enc, if_pos h]
theorem enc_hi {u : Nat} (h : ¬ u < 128) : enc u = ((u % 128 + 128 : Nat) : Int) :: enc (u / 128) := by rw [enc, if_neg h]
theorem enc_pos (u : Nat) : 1 ≤ (enc u).length := by
  by_cases h : u < 128
  · simp [enc_lo h]
  · simp [enc_hi h]
/-- No more bytes than hold it. -/
theorem enc_len : ∀ (s u : Nat), u < 128 ^ (s + 1) → (enc u).length ≤ s + 1
  | 0, u, h => by simp [enc_lo (show u < 128 by simpa using h)]
  | s + 1, u, h => by
    by_cases h1 : u < 128
    · simp [enc_lo h1]
    · have : u / 128 < 128 ^ (s + 1) := by
        rw [Nat.div_lt_iff_lt_mul (by omega)]
        rw [Nat.pow_succ] at h
        exact h
      have := enc_len s (u / 128) this
      simp [enc_hi h1]; omega
theorem enc_len10 {u : Nat} (h : u < 18446744073709551616) : (enc u).length ≤ 10 := enc_len 9 u (by omega)
theorem enc_len9 {u : Nat} (h : u < 9223372036854775808) : (enc u).length ≤ 9 := enc_len 8 u (by omega)
theorem enc_byte : ∀ (n u : Nat), u ≤ n → ∀ z ∈ enc u, 0 ≤ z ∧ z ≤ 255
  | n, u, hn, z, hz => by
    by_cases h : u < 128
    · rw [enc_lo h] at hz
      simp at hz
      omega
    · rw [enc_hi h] at hz
      rcases List.mem_cons.1 hz with rfl | hz
      · omega
      · match n, hn with
        | 0, hn => omega
        | n + 1, hn => exact enc_byte n (u / 128) (by omega) z hz
theorem enc_range (u : Nat) (j : Nat) : 0 ≤ (enc u)[j]?.getD 0 ∧ (enc u)[j]?.getD 0 ≤ 255 := by
  by_cases hj : j < (enc u).length
  · have := enc_byte u u (Nat.le_refl _) _ (List.getElem_mem hj)
    simpa [hj] using this
  · simp [List.getElem?_eq_none (by omega : (enc u).length ≤ j)]
/-- As few bytes as hold it. -/
theorem enc_fit : ∀ (n u : Nat), u ≤ n → u < 128 ^ (enc u).length ∧ (1 < (enc u).length → 128 ^ ((enc u).length - 1) ≤ u)
  | n, u, hn => by
    by_cases h : u < 128
    · simp [enc_lo h]; omega
    · match n, hn with
      | 0, hn => omega
      | n + 1, hn =>
        have ih := enc_fit n (u / 128) (by omega)
        have hp := enc_pos (u / 128)
        obtain ⟨l, hl⟩ : ∃ l, (enc (u / 128)).length = l + 1 := ⟨(enc (u / 128)).length - 1, by omega⟩
        rw [enc_hi h]
        simp only [List.length_cons, Nat.add_sub_cancel]
        rw [hl] at ih ⊢
        simp only [Nat.add_sub_cancel] at ih
        constructor
        · have h1 := ih.1
          rw [Nat.div_lt_iff_lt_mul (by omega)] at h1
          rw [Nat.pow_succ]; exact h1
        · intro _
          by_cases hl0 : l = 0
          · subst hl0; omega
          · have h2 := ih.2 (by omega)
            rw [Nat.le_div_iff_mul_le (by omega)] at h2
            rw [Nat.pow_succ]; exact h2

/-- The number that bytes begin with, once u is read of i bytes: the number, how many bytes, the error. 'most': so many bytes at most. -/
def rd (most : Nat) : Nat → Nat → List Int → Nat × Nat × Nat
  | _, i, [] => if i < most then (0, 0, 2) else (0, 0, 3)
  | u, i, z :: zs =>
    if i < most then
      if 128 ≤ z then rd most (u + (z % 128).toNat * 128 ^ i) (i + 1) zs
      else if i = 9 ∧ 1 < z then (0, 0, 3)
      else if 0 < i ∧ z = 0 then (0, 0, 4)
      else (u + z.toNat * 128 ^ i, i + 1, 0)
    else (0, 0, 3)

/-- What is written is read, whatever stands behind it. -/
theorem rd_enc (most : Nat) (hm : most ≤ 10) (tail : List Int) : ∀ (n v u i : Nat), v ≤ n → i + (enc v).length ≤ most → (0 < i → 0 < v) → (v * 128 ^ i < 18446744073709551616) →
    rd most u i (enc v ++ tail) = (u + v * 128 ^ i, i + (enc v).length, 0)
  | n, v, u, i, hn, hl, hp, hv => by
    have h1 := enc_pos v
    by_cases h : v < 128
    · rw [enc_lo h] at hl ⊢
      simp only [List.length_cons, List.length_nil, Nat.zero_add] at hl
      simp only [List.cons_append, List.nil_append, rd]
      rw [if_pos (by omega), if_neg (by omega), if_neg, if_neg]
      · simp
      · intro hh; omega
      · rintro ⟨rfl, h9⟩; omega
    · match n, hn with
      | 0, hn => omega
      | n + 1, hn =>
        rw [enc_hi h] at hl ⊢
        simp only [List.length_cons] at hl
        simp only [List.cons_append, rd]
        rw [if_pos (by omega), if_pos (by omega)]
        have hdm : v = 128 * (v / 128) + v % 128 := (Nat.div_add_mod v 128).symm
        have hpow : (v / 128) * 128 ^ (i + 1) ≤ v * 128 ^ i := by
          rw [Nat.pow_succ, Nat.mul_comm (128 ^ i), ← Nat.mul_assoc]
          exact Nat.mul_le_mul_right _ (by omega)
        rw [rd_enc most hm tail n (v / 128) _ (i + 1) (by omega) (by omega) (by intro; omega) (by omega)]
        have e1 : (((v % 128 + 128 : Nat) : Int) % 128).toNat = v % 128 := by omega
        rw [e1]
        have e2 : u + v % 128 * 128 ^ i + v / 128 * 128 ^ (i + 1) = u + v * 128 ^ i := by
          rw [Nat.pow_succ, Nat.mul_comm (128 ^ i), ← Nat.mul_assoc, Nat.add_assoc, ← Nat.add_mul]
          congr 2; omega
        rw [e2]
        simp only [List.length_cons, Prod.mk.injEq, and_true, true_and]
        omega

/-- What is read has just those bytes. -/
theorem rd_back (most : Nat) : ∀ (zs : List Int) (u i : Nat), (∀ z ∈ zs, 0 ≤ z ∧ z ≤ 255) → (rd most u i zs).2.2 = 0 →
    ∃ v, (rd most u i zs).1 = u + v * 128 ^ i ∧ (rd most u i zs).2.1 = i + (enc v).length ∧ i + (enc v).length ≤ most ∧ (enc v).length ≤ zs.length ∧ zs.take (enc v).length = enc v ∧ (0 < i → 0 < v)
  | [], u, i, _, h => by
    simp only [rd] at h
    split at h <;> simp at h
  | z :: zs, u, i, hz, h => by
    have hzb := hz z (by simp)
    simp only [rd] at h ⊢
    by_cases h0 : i < most
    · rw [if_pos h0] at h ⊢
      by_cases h1 : 128 ≤ z
      · rw [if_pos h1] at h ⊢
        obtain ⟨v, e1, e2, e3, e3', e4, e5⟩ := rd_back most zs _ (i + 1) (fun y hy => hz y (by simp [hy])) h
        have hv := e5 (by omega)
        have hd : (v * 128 + (z % 128).toNat) / 128 = v := by omega
        have hm : (v * 128 + (z % 128).toNat) % 128 = (z % 128).toNat := by omega
        have he : enc (v * 128 + (z % 128).toNat) = z :: enc v := by
          rw [enc_hi (by omega), hd, hm]
          congr 1
          omega
        refine ⟨v * 128 + (z % 128).toNat, ?_, ?_, ?_, ?_, ?_, ?_⟩
        · rw [e1, Nat.add_assoc]
          congr 1
          rw [Nat.pow_succ, Nat.mul_comm (128 ^ i), ← Nat.mul_assoc, ← Nat.add_mul]
          congr 1; omega
        · rw [e2, he]; simp; omega
        · rw [he]; simp; omega
        · rw [he]; simp; omega
        · rw [he]; simp [e4]
        · intro _; omega
      · rw [if_neg h1] at h ⊢
        by_cases h2 : i = 9 ∧ 1 < z
        · rw [if_pos h2] at h; simp at h
        · rw [if_neg h2] at h ⊢
          by_cases h3 : 0 < i ∧ z = 0
          · rw [if_pos h3] at h; simp at h
          · rw [if_neg h3] at h ⊢
            have he : enc z.toNat = [z] := by rw [enc_lo (by omega)]; simp; omega
            exact ⟨z.toNat, rfl, by rw [he]; rfl, by rw [he]; simp; omega, by rw [he]; simp, by rw [he]; simp, by omega⟩
    · rw [if_neg h0] at h; simp at h

/-- The number read is one of 64 bits. -/
theorem rd_lt (most : Nat) (hm : most ≤ 10) : ∀ (zs : List Int) (u i : Nat), (∀ z ∈ zs, 0 ≤ z ∧ z ≤ 255) → (i ≤ 9 → u < 128 ^ i) → (rd most u i zs).1 < 18446744073709551616
  | [], u, i, _, _ => by simp only [rd]; split <;> simp
  | z :: zs, u, i, hz, hu => by
    have hzb := hz z (by simp)
    simp only [rd]
    split
    · rename_i him
      have h9 : i ≤ 9 := by omega
      have hu' := hu h9
      have hz7 : (z % 128).toNat ≤ 127 := by omega
      have hmul : (z % 128).toNat * 128 ^ i ≤ 127 * 128 ^ i := Nat.mul_le_mul_right _ hz7
      split
      · refine rd_lt most hm zs _ (i + 1) (fun y hy => hz y (by simp [hy])) (fun _ => ?_)
        rw [Nat.pow_succ]; omega
      · split
        · simp
        · split
          · simp
          · rename_i h1 h2 h3
            show u + z.toNat * 128 ^ i < _
            by_cases hi : i = 9
            · subst hi
              have : z.toNat ≤ 1 := by omega
              have : z.toNat * 128 ^ 9 ≤ 1 * 128 ^ 9 := Nat.mul_le_mul_right _ this
              omega
            · have e : 128 ^ i ≤ 128 ^ 8 := Nat.pow_le_pow_right (by omega) (by omega)
              have : z.toNat ≤ 127 := by omega
              have : z.toNat * 128 ^ i ≤ 127 * 128 ^ i := Nat.mul_le_mul_right _ this
              omega
    · simp
theorem rd_lt63 (zs : List Int) (hz : ∀ z ∈ zs, 0 ≤ z ∧ z ≤ 255) : (rd 9 0 0 zs).1 < 9223372036854775808 := by
  by_cases h : (rd 9 0 0 zs).2.2 = 0
  · obtain ⟨v, e1, -, e3, -⟩ := rd_back 9 zs 0 0 hz h
    have h1 := (enc_fit v v (Nat.le_refl _)).1
    have h2 : 128 ^ (enc v).length ≤ 128 ^ 9 := Nat.pow_le_pow_right (by omega) (by omega)
    rw [e1]; simp; omega
  · have : ∀ (ys : List Int) (u i : Nat), (rd 9 u i ys).2.2 ≠ 0 → (rd 9 u i ys).1 = 0 := by
      intro ys
      induction ys with
      | nil => intro u i _; simp only [rd]; split <;> rfl
      | cons y ys ih =>
        intro u i hne
        simp only [rd] at hne ⊢
        split
        · rename_i him
          rw [if_pos him] at hne
          split
          · rename_i h1
            rw [if_pos h1] at hne
            exact ih _ _ hne
          · rename_i h1
            rw [if_neg h1] at hne
            split
            · rfl
            · rename_i h2
              rw [if_neg h2] at hne
              split
              · rfl
              · rename_i h3
                rw [if_neg h3] at hne
                exact absurd rfl hne
        · rfl
    rw [this zs 0 0 h]; omega

/-- A signed number's place, and the number of a place. -/
def zz (n : Int) : Nat := if n < 0 then ((-n - 1) * 2 + 1).toNat else (n * 2).toNat
def unz (u : Nat) : Int := if u % 2 = 1 then -((u / 2 : Nat) : Int) - 1 else ((u / 2 : Nat) : Int)
theorem unz_zz (n : Int) : unz (zz n) = n := by
  unfold zz unz
  by_cases h : n < 0
  · rw [if_pos h]
    have e : ((-n - 1) * 2 + 1).toNat % 2 = 1 := by omega
    rw [if_pos e]; omega
  · rw [if_neg h]
    have e : ¬ (n * 2).toNat % 2 = 1 := by omega
    rw [if_neg e]; omega
theorem zz_unz (u : Nat) : zz (unz u) = u := by
  unfold zz unz
  by_cases h : u % 2 = 1
  · rw [if_pos h, if_pos (by omega)]; omega
  · rw [if_neg h, if_neg (by omega)]; omega
theorem zz_lt {n : Int} (h : -9223372036854775808 ≤ n ∧ n ≤ 9223372036854775807) : zz n < 18446744073709551616 := by
  unfold zz; split <;> omega

theorem rd_put' (m : Nat) (zs : List Int) (h : m < 9223372036854775808) : rd 9 0 0 (enc m ++ zs) = (m, (enc m).length, 0) := by
  have hl := enc_len9 h
  rw [rd_enc 9 (by omega) zs m m 0 0 (Nat.le_refl _) (by omega) (by omega) (by simp; omega)]
  simp
end Go.Proofs.YtkimocfofihjbaaDoor
namespace Go.Proofs.YtkimocfofihjbaaDoor
open Go.RowKit


/-- What holds at the head of a round: k bytes are gone by, each above 127, and make up X. -/
def RdRel (most n : Nat) (zs : List Int) (x i : Value) : Prop :=
  ∃ (k X : Nat) (Y : Int), k ≤ n ∧ k ≤ most ∧ i = .int .i64 k ∧ x = .int .u64 Y ∧ (k ≤ 9 → Y = X ∧ X < 128 ^ k) ∧ rd most 0 0 zs = rd most X k (zs.drop k)

theorem rd_step {most X k : Nat} {z : Int} {zs : List Int} (hz : zs[k]? = some z) : rd most X k (zs.drop k) = rd most X k (z :: zs.drop (k + 1)) := by
  obtain ⟨hk, rfl⟩ := List.getElem?_eq_some_iff.1 hz
  rw [List.drop_eq_getElem_cons hk]

theorem or_join (X z k : Nat) (hX : X < 128 ^ k) (hz : z * 128 ^ k < 18446744073709551616) (hk : k ≤ 9) :
    bits .or .u64 (X : Int) (IntKind.u64.wrap ((z : Int) * 2 ^ (7 * k))) = ((X + z * 128 ^ k : Nat) : Int) := by
  have hp : (2 : Int) ^ (7 * k) = ((128 ^ k : Nat) : Int) := by
    rw [Int.pow_mul]; simp
  have hp' : (128 : Nat) ^ k = 2 ^ (7 * k) := by rw [Nat.pow_mul]
  have h9 : 128 ^ k ≤ 128 ^ 9 := Nat.pow_le_pow_right (by omega) hk
  have hcast : (z : Int) * ((128 ^ k : Nat) : Int) = ((z * 128 ^ k : Nat) : Int) := (Int.natCast_mul _ _).symm
  rw [hp, hcast, IntWalk.u64_in _ ⟨by omega, by omega⟩, bits_or_u64_nat _ _ (by omega) hz]
  congr 1
  rw [hp', Nat.or_comm, Nat.mul_comm, ← Nat.two_pow_add_eq_or_of_lt (by rw [← hp']; exact hX)]
  omega

/-- One way out of the loop. -/
theorem rd_out {most : Nat} {zs : List Int} {a b c : Nat} (h : rd most 0 0 zs = (a, b, c)) :
    Ending.returned (.tuple #[.int .u64 (a : Int), .int .i64 (b : Int), .int .i64 (c : Int)]) = Ending.returned (.tuple #[.int .u64 (rd most 0 0 zs).1, .int .i64 (rd most 0 0 zs).2.1, .int .i64 (rd most 0 0 zs).2.2]) := by rw [h]

theorem rd_long {most X k : Nat} {z : Int} {zs : List Int} (hd : rd most 0 0 zs = rd most X k (zs.drop k)) (hz : zs[k]? = some z) (hm : k < most) (h9 : k = 9) (h1 : 1 < z) (h2 : z < 128) : rd most 0 0 zs = (0, 0, 3) := by
  rw [hd, rd_step hz, rd, if_pos hm, if_neg (by omega), if_pos ⟨h9, h1⟩]
theorem rd_slack {most X k : Nat} {z : Int} {zs : List Int} (hd : rd most 0 0 zs = rd most X k (zs.drop k)) (hz : zs[k]? = some z) (hm : k < most) (h9 : 0 < k) (h1 : z = 0) : rd most 0 0 zs = (0, 0, 4) := by
  rw [hd, rd_step hz, rd, if_pos hm, if_neg (by omega), if_neg (by omega), if_pos ⟨h9, h1⟩]
theorem rd_ok {most X k : Nat} {z : Int} {zs : List Int} (hd : rd most 0 0 zs = rd most X k (zs.drop k)) (hz : zs[k]? = some z) (hm : k < most) (h128 : z < 128) (h9 : k = 9 → z ≤ 1) (h0 : 0 < k → z ≠ 0) :
    rd most 0 0 zs = (X + z.toNat * 128 ^ k, k + 1, 0) := by
  rw [hd, rd_step hz, rd, if_pos hm, if_neg (by omega), if_neg (fun h => by have := h9 h.1; omega), if_neg (fun h => h0 h.1 h.2)]
theorem rd_more {most X k : Nat} {z : Int} {zs : List Int} (hd : rd most 0 0 zs = rd most X k (zs.drop k)) (hz : zs[k]? = some z) (hm : k < most) (h128 : 128 ≤ z) :
    rd most 0 0 zs = rd most (X + (z % 128).toNat * 128 ^ k) (k + 1) (zs.drop (k + 1)) := by
  rw [hd, rd_step hz, rd, if_pos hm, if_pos h128]
theorem rd_end {most X k : Nat} {zs : List Int} (hd : rd most 0 0 zs = rd most X k (zs.drop k)) (hk : k = zs.length) (hm : k < most) : rd most 0 0 zs = (0, 0, 2) := by
  rw [hd, List.drop_of_length_le (by omega), rd, if_pos hm]
theorem rd_past {most X k : Nat} {zs : List Int} (hd : rd most 0 0 zs = rd most X k (zs.drop k)) (hm : ¬ k < most) : rd most 0 0 zs = (0, 0, 3) := by
  rw [hd]
  cases zs.drop k <;> rw [rd, if_neg hm]

/-- The sum of a round, as the walk spells it. -/
theorem rd_sum {X k : Nat} {Y z : Int} (hY : k ≤ 9 → Y = X ∧ X < 128 ^ k) (hz : 0 ≤ z ∧ z ≤ 255) (hk : k ≤ 9) (h9 : k = 9 → z ≤ 1) :
    bits .or .u64 Y (IntKind.u64.wrap (z % 128 * 2 ^ (7 * k))) = ((X + (z % 128).toNat * 128 ^ k : Nat) : Int) ∧ (k ≤ 8 → X + (z % 128).toNat * 128 ^ k < 128 ^ (k + 1)) := by
  obtain ⟨rfl, hX⟩ := hY hk
  have e : z % 128 = (((z % 128).toNat : Nat) : Int) := by omega
  have hb : (z % 128).toNat ≤ 127 := by omega
  have hmul : (z % 128).toNat * 128 ^ k ≤ 127 * 128 ^ k := Nat.mul_le_mul_right _ hb
  constructor
  · rw [e, Int.toNat_natCast]
    refine or_join X _ k hX ?_ hk
    by_cases h : k = 9
    · subst h
      have := h9 rfl
      have : (z % 128).toNat ≤ 1 := by omega
      have : (z % 128).toNat * 128 ^ 9 ≤ 1 * 128 ^ 9 := Nat.mul_le_mul_right _ this
      omega
    · have : 128 ^ k ≤ 128 ^ 8 := Nat.pow_le_pow_right (by omega) (by omega)
      omega
  · intro _
    rw [Nat.pow_succ]
    omega

set_option maxRecDepth 100000 in
theorem read_any (A : Option Addr) (n c most : Nat) (zs : List Int) (w : World) (B : Nat) (hr : Sl w B .u8 A zs) (hn : zs.length = n) (hc : n ≤ c) (hmax : n ≤ 9223372036854775807) (hmost : most ≤ 10) (hby : ∀ z ∈ zs, 0 ≤ z ∧ z ≤ 255) :
    Calls Tryd.prog 53 #[.slice A n c, .int .i64 most] w fun e w' =>
      e = .returned (.tuple #[.int .u64 (rd most 0 0 zs).1, .int .i64 (rd most 0 0 zs).2.1, .int .i64 (rd most 0 0 zs).2.2]) ∧ w = w' := by
  have HN := hide hn
  have HR := hide hr
  have HB := hide hby
  clear hn hr hby
  by_cases hlm : n ≤ most
  all_goals
    go_enter Tryd.func53, Tryd.ntmps53
    go_wp2
    go_loop [4, 16] (fun x i => RdRel most n zs x i) (fun _ i => 16 - (intOf i).toNat)
    case atStart => exact ⟨0, 0, 0, Nat.zero_le _, Nat.zero_le _, rfl, rfl, fun _ => ⟨rfl, by simp⟩, rfl⟩
    case round =>
      obtain ⟨k, X, Y, hkn, hkm, rfl, rfl, hY, hd⟩ := hrel
      have HY := hide hY
      have HD := hide hd
      clear hY hd
      by_cases hlt : k < n ∧ k < most
      · obtain ⟨hlt, hltm⟩ := hlt
        have hlz : k < zs.length := by have := HN.out; omega
        obtain ⟨b, o, rfl, -, hcell⟩ := HR.out (by omega)
        obtain ⟨z, hz⟩ : ∃ z, zs[k]? = some z := ⟨_, List.getElem?_eq_getElem hlz⟩
        have hcz : w.cell? ⟨b, o + k, none⟩ = some (.int .u8 z) := by rw [hcell k hlz]; simp [List.getD, hz]
        have hzb : 0 ≤ z ∧ z ≤ 255 := HB.out _ (List.mem_of_getElem? hz)
        have HZ := hide hz
        clear hcell hlz hz
        by_cases h128 : 128 ≤ z
        · have hs := hide (rd_sum HY.out hzb)
          go_wp2
          go_round
          case rel =>
            refine ⟨k + 1, _, _, by omega, by omega, by go_num, rfl, fun h => ?_, rd_more HD.out HZ.out hltm h128⟩
            have := hs.out (by omega) (by omega)
            exact ⟨this.1, this.2 (by omega)⟩
          case measure => simp [intOf]; omega
        · have h127 : z < 128 := by omega
          by_cases h9 : k = 9 ∧ 1 < z
          · have hv := hide (rd_long HD.out HZ.out hltm h9.1 h9.2 h127)
            have hk9 : 9 ≤ k := by omega
            have h1 : 1 < z := h9.2
            clear h9
            go_wp2
            go_ret3
            exact ⟨rd_out hv.out, rfl⟩
          · by_cases h0 : 0 < k ∧ z = 0
            · have hv := hide (rd_slack HD.out HZ.out hltm h0.1 h0.2)
              have hzr : (z == 0) = true := by simpa using h0.2
              have hk0 := h0.1
              have hle : z ≤ 1 := by omega
              clear h9 h0
              go_wp2
              all_goals
                go_ret3
                exact ⟨rd_out hv.out, rfl⟩
            · have hv := hide (rd_ok HD.out HZ.out hltm h127 (by omega) (by omega))
              have hs := hide (rd_sum HY.out hzb (by omega) (by omega)).1
              have hend : Ending.returned (.tuple #[.int .u64 (bits .or .u64 Y (IntKind.u64.wrap (z % 128 * 2 ^ (7 * k)))), .int .i64 ((k : Int) + 1), .int .i64 0]) = Ending.returned (.tuple #[.int .u64 (rd most 0 0 zs).1, .int .i64 (rd most 0 0 zs).2.1, .int .i64 (rd most 0 0 zs).2.2]) := by
                have hm : (z % 128).toNat = z.toNat := by omega
                rw [hs.out, hv.out, hm]
                simp
              have HE := hide hend
              clear hend hs hv
              have hzr : 0 < k → (z == 0) = false := fun h => by
                have : ¬ z = 0 := fun h' => h0 ⟨h, h'⟩
                simpa using this
              have hle : 9 ≤ k → z ≤ 1 := fun h => by omega
              clear h9 h0
              by_cases hk9 : 9 ≤ k
              · have hle' := hle hk9
                have hzr' := hzr (by omega)
                clear hle hzr
                go_wp2
                go_ret3
                have hk : k = 9 := by omega
                subst hk
                exact ⟨by simpa using HE.out, rfl⟩
              · by_cases hk0 : 0 < k
                · have hzr' := hzr (by omega)
                  clear hle hzr
                  go_wp2
                  go_ret3
                  exact ⟨HE.out, rfl⟩
                · clear hle hzr
                  go_wp2
                  go_ret3
                  exact ⟨HE.out, rfl⟩
      · by_cases hk : n < most
        · have hv := hide (rd_end HD.out (by have := HN.out; omega) (by omega))
          go_wp2
          all_goals
            go_ret3
            exact ⟨rd_out hv.out, rfl⟩
        · have hv := hide (rd_past HD.out (by omega))
          go_wp2
          go_ret3
          exact ⟨rd_out hv.out, rfl⟩
end Go.Proofs.YtkimocfofihjbaaDoor
