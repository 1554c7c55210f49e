/- Layer 17, the program: own lists cut, closed up and cleared; slices.DeleteFunc and slices.Delete of moves. No condition but on lengths. -/
import Derived.Test.YtkilfejcohnceaaPaIB
import Derived.Deep.CutRange
set_option linter.unusedSimpArgs false
set_option linter.unusedVariables false
namespace Go.Proofs.Ytkilfejcohnceaa
open Go.RowKit

section
variable {β : Type} {c : β → List Value} {T : TypeId} {sz : Nat} {w : World} {base : Nat} {l : List β}
theorem flat_take (hc : ∀ y, (c y).length = sz) (l : List β) (k : Nat) : (l.take k).flatMap c = (l.flatMap c).take (k * sz) := by
  by_cases hk : k ≤ l.length
  · have h2 : l.flatMap c = (l.take k).flatMap c ++ (l.drop k).flatMap c := by rw [← List.flatMap_append, List.take_append_drop]
    have h3 : ((l.take k).flatMap c).length = k * sz := by rw [flat_len hc, List.length_take, Nat.min_eq_left hk]
    rw [h2, ← h3, List.take_left]
  · rw [List.take_of_length_le (by omega), List.take_of_length_le]
    rw [flat_len hc]
    exact Nat.mul_le_mul_right _ (by omega)
theorem flat_drop (hc : ∀ y, (c y).length = sz) (l : List β) (k : Nat) : (l.drop k).flatMap c = (l.flatMap c).drop (k * sz) := by
  by_cases hk : k ≤ l.length
  · have h2 : l.flatMap c = (l.take k).flatMap c ++ (l.drop k).flatMap c := by rw [← List.flatMap_append, List.take_append_drop]
    have h3 : ((l.take k).flatMap c).length = k * sz := by rw [flat_len hc, List.length_take, Nat.min_eq_left hk]
    rw [h2, ← h3, List.drop_left]
  · rw [List.drop_of_length_le (by omega), List.drop_of_length_le]
    · rfl
    rw [flat_len hc]
    exact Nat.mul_le_mul_right _ (by omega)
/-- clear(s[k:n]). -/
theorem run_clear_c {P : Program} (w : World) (t ty : TypeId) {z : Value} (ht : P.underlying t = some (.slice T)) (hz : ∀ W, Sem.run P (zeroValue T) W = .ok z W) (hzs : z.cells.size = sz) (hz1 : ∀ u ∈ z.cells.toList, u.oneCell' = true) (hc : ∀ y, (c y).length = sz) (hs0 : 0 < sz)
    (g k n cap m cc : Nat) (hm : k + m = n) (hm0 : 0 < m) (hl : l.length = n) (how : OwC c T sz w base (.slice (some ⟨g, 0, none⟩) n cap) l) :
    ∃ w', Sem.run P (Builtin.clear_ #[t] ty #[.slice (some ⟨g, k * sz, none⟩) m cc]) w = .ok (.tuple #[]) w' ∧ OwC c T sz w' base (.slice (some ⟨g, 0, none⟩) k cap) (l.take k) ∧ w.grownBy w' (some g) := by
  obtain ⟨m, rfl⟩ : ∃ j, m = j + 1 := ⟨m - 1, by omega⟩
  subst hl
  have how0 := how
  rcases how.2 with ⟨h1, -⟩ | ⟨g', cap', cur, hv, hg, hh, hnc, hcm, hsz, htake⟩
  · cases h1
  injection hv with h1 h2 h3
  injection h1 with h1
  injection h1 with h1
  subst h1; subst h3
  obtain ⟨xs, hxs⟩ : ∃ xs, (Builtin.zeroCells z.cells (m + 1)).toList = xs := ⟨_, rfl⟩
  have hlen : xs.length = (m + 1) * sz := by
    rw [← hxs, Array.length_toList, size_zeroCells, hzs]
  have hone : ∀ u ∈ xs, u.oneCell' = true := by
    intro u hu
    rw [← hxs] at hu
    unfold Builtin.zeroCells at hu
    simp only [Array.toList_map, List.mem_map] at hu
    obtain ⟨i, -, rfl⟩ := hu
    have hi : i % z.cells.size < z.cells.size := Nat.mod_lt _ (by omega)
    refine hz1 _ ?_
    rw [getElem!_pos z.cells _ hi]
    exact Array.mem_toList_iff.2 (Array.getElem_mem hi)
  have hks : k * sz + 0 + xs.length ≤ cur.size := by
    rw [hlen, hsz, Nat.add_zero, ← Nat.add_mul]
    exact Nat.mul_le_mul_right _ (by omega)
  have hst := Go.run_storeCells_at P g (k * sz) T xs 0 cur w hh hks hone
  have hrun : (Builtin.clear_ #[t] ty #[.slice (some ⟨g, k * sz, none⟩) (m + 1) cc]).run P w = .ok (.tuple #[]) (w.setRow g (cur.toList.take (k * sz + 0) ++ xs ++ cur.toList.drop (k * sz + 0 + xs.length)).toArray) := by
    simp [Builtin.clear_, run_underlying ht, hz, hxs, hst, Result.andThen]
  refine ⟨_, hrun, ?_, ⟨rfl, rfl, rfl, by simp, fun j _ hj => setRow_other w g j _ (fun e => hj (by simp [e]))⟩⟩
  have hk : k ≤ l.length := by omega
  have hlk : (l.take k).length = k := by rw [List.length_take, Nat.min_eq_left hk]
  simp only [Nat.add_zero] at hks ⊢
  refine ⟨flat_len hc _, .inr ⟨g, cap, _, by rw [hlk], hg, setRow_heap w g cur _ _ _ hh, by rw [hlk]; omega, hcm, ?_, ?_⟩⟩
  · simp only [List.size_toArray, List.length_append, List.length_take, List.length_drop, Array.length_toList]
    omega
  · rw [hlk, flat_take hc, List.append_assoc, List.take_append_of_le_length (by rw [List.length_take, Array.length_toList]; omega), List.take_take, Nat.min_self, ← htake, List.take_take, Nat.min_eq_left (Nat.mul_le_mul_right _ hk)]
/-- append(s[:i], s[i + 1:]..): s without its i-th, what stood last stands there yet. -/
theorem run_app_in {P : Program} (w : World) (t ty : TypeId) (i0 : TypeInfo) (ht : P.underlying t = some (.slice T)) (hi0 : P.info? T = some i0) (hsize : i0.size = sz) (hc : ∀ y, (c y).length = sz) (h1 : ∀ y, ∀ u ∈ c y, u.oneCell' = true)
    (g i n cap cc : Nat) (ad : Addr) (hl : l.length = n) (hi : i < n) (had : i + 1 < n → ad = ⟨g, (i + 1) * sz, none⟩) (how : OwC c T sz w base (.slice (some ⟨g, 0, none⟩) n cap) l) :
    ∃ w', (Builtin.append_ #[t, t] ty #[.slice (some ⟨g, 0, none⟩) i cap, .slice (some ad) (n - (i + 1)) cc]).run P w = .ok (.slice (some ⟨g, 0, none⟩) (n - 1) cap) w' ∧ OwC c T sz w' base (.slice (some ⟨g, 0, none⟩) n cap) (l.eraseIdx i ++ l.drop (n - 1)) ∧ w.grownBy w' (some g) := by
  subst hl
  have how0 := how
  rcases how.2 with ⟨e1, -⟩ | ⟨g', cap', cur, hv, hg, hh, hnc, hcm, hsz, htake⟩
  · cases e1
  injection hv with e1 e2 e3
  injection e1 with e1
  injection e1 with e1
  subst e1; subst e3
  have hnl : ((l.drop (i + 1)).flatMap c).length = (l.length - (i + 1)) * sz := by rw [flat_len hc, List.length_drop]
  have hle : (l.flatMap c).length = l.length * sz := flat_len hc l
  have hr := run_append_room (P := P) w t ty T i0 ht hi0 g i cap cur hh ad (l.length - (i + 1)) cc ((l.drop (i + 1)).flatMap c) (by rw [hnl, hsize]) (fun j u hu => by
    have hj := (List.getElem?_eq_some_iff.1 hu).1
    rw [hnl] at hj
    have hlt : i + 1 < l.length := by
      rcases Nat.lt_or_ge (i + 1) l.length with h | h
      · exact h
      · rw [show l.length - (i + 1) = 0 by omega, Nat.zero_mul] at hj
        omega
    rw [had hlt, Addr.add_lit]
    rw [flat_drop hc, List.getElem?_drop] at hu
    rw [World.ownsRow.cellAt how0 _ (by rw [← hle]; exact (List.getElem?_eq_some_iff.1 hu).1)]
    exact hu) (fun u hu => by
    obtain ⟨y, -, hy⟩ := List.mem_flatMap.1 hu
    exact h1 y u hy) (by omega) (by
    rw [hnl, hsz, hsize, ← Nat.add_mul]
    exact Nat.mul_le_mul_right _ (by omega))
  rw [hsize] at hr
  rw [show i + (l.length - (i + 1)) = l.length - 1 by omega] at hr
  refine ⟨_, hr, ?_, ⟨rfl, rfl, rfl, by simp, fun j _ hj => setRow_other w g j _ (fun e => hj (by simp [e]))⟩⟩
  have hlen : (l.eraseIdx i ++ l.drop (l.length - 1)).length = l.length := by
    rw [List.length_append, List.length_eraseIdx_of_lt hi, List.length_drop]
    omega
  obtain ⟨rest, hrest⟩ : ∃ rest, cur.toList = l.flatMap c ++ rest := ⟨cur.toList.drop (l.length * sz), by rw [← htake, List.take_append_drop]⟩
  have hoff : i * sz + ((l.drop (i + 1)).flatMap c).length = (l.length - 1) * sz := by
    rw [hnl, ← Nat.add_mul]
    congr 1
    omega
  have hi1 : i * sz ≤ (l.flatMap c).length := by rw [hle]; exact Nat.mul_le_mul_right _ (by omega)
  have hi2 : (l.length - 1) * sz ≤ (l.flatMap c).length := by rw [hle]; exact Nat.mul_le_mul_right _ (by omega)
  have hcells : cur.toList.take (i * sz) ++ (l.drop (i + 1)).flatMap c ++ cur.toList.drop (i * sz + ((l.drop (i + 1)).flatMap c).length) = (l.eraseIdx i ++ l.drop (l.length - 1)).flatMap c ++ rest := by
    rw [hoff, hrest, List.take_append_of_le_length hi1, List.drop_append_of_le_length hi2, List.flatMap_append, List.eraseIdx_eq_take_drop_succ, List.flatMap_append, flat_take hc, flat_drop hc l (l.length - 1)]
    simp only [List.append_assoc]
  refine ⟨flat_len hc _, .inr ⟨g, cap, _, by rw [hlen], hg, setRow_heap w g cur _ _ _ hh, by rw [hlen]; omega, hcm, ?_, ?_⟩⟩
  · rw [hcells]
    have : cur.toList.length = cap * sz := by rw [Array.length_toList, hsz]
    rw [hrest, List.length_append, hle] at this
    rw [List.size_toArray, List.length_append, flat_len hc, hlen]
    exact this
  · simp only [List.toList_toArray]
    rw [hcells, ← flat_len hc, List.take_left]
end
theorem mvs_own {w : World} {base : Nat} {v : Value} {l : List MvV} (h : OwC mvC 38 4 w base v l) (hr : mvR l) : MvsV w (· < w.heap.size) v l :=
  h.vec (fun _ _ => rfl) rfl (fun b hb => (h.lt b hb).2) fun b o j x y hx hy hc => by
    rw [hx] at hy
    injection hy with hy
    subst hy
    exact ⟨⟨hc 0 _ rfl, hc 1 _ rfl, hc 2 _ rfl, hc 3 _ rfl⟩, hr x (List.mem_of_getElem? hx)⟩
section
variable {w : World} {base g n c a : Nat} {ys : List MvV}
theorem mv_put (h : OwC mvC 38 4 w base (.slice (some ⟨g, 0, none⟩) n c) ys) (hn : ys.length = n) (ha : a < n) (e : MvV) :
    OwC mvC 38 4 ((((w.setCell ⟨g, a * 4, none⟩ (.int .i64 e.t.k)).setCell ⟨g, a * 4 + 1, none⟩ (.int .i64 e.t.n)).setCell ⟨g, a * 4 + 2, none⟩ (.int .i64 e.f.k)).setCell ⟨g, a * 4 + 3, none⟩ (.int .i64 e.f.n)) base (.slice (some ⟨g, 0, none⟩) n c) (ys.set a e) := by
  obtain ⟨u, hu⟩ : ∃ u, ys[a]? = some u := ⟨_, List.getElem?_eq_getElem (by omega)⟩
  obtain ⟨⟨uk, un⟩, ⟨vk, vn⟩⟩ := u
  obtain ⟨⟨tk, tn⟩, ⟨fk, fn⟩⟩ := e
  have at1 : ∀ (zs : List MvV) (x : MvV), zs.length = n → (zs.set a x)[a]? = some x := fun zs x hz => by rw [List.getElem?_set, if_pos rfl, if_pos (by omega)]
  have ln : ∀ (zs : List MvV) (x : MvV), zs.length = n → (zs.set a x).length = n := fun zs x hz => by rw [List.length_set]; exact hz
  have h1 := h.putE hn (fun _ => rfl) (i := 0) (y' := ⟨⟨tk, un⟩, ⟨vk, vn⟩⟩) (u := .int .i64 tk) hu (by omega) rfl
  have l1 := ln ys ⟨⟨tk, un⟩, ⟨vk, vn⟩⟩ hn
  have h2 := h1.putE l1 (fun _ => rfl) (i := 1) (y' := ⟨⟨tk, tn⟩, ⟨vk, vn⟩⟩) (u := .int .i64 tn) (at1 ys _ hn) (by omega) rfl
  have l2 := ln _ ⟨⟨tk, tn⟩, ⟨vk, vn⟩⟩ l1
  have h3 := h2.putE l2 (fun _ => rfl) (i := 2) (y' := ⟨⟨tk, tn⟩, ⟨fk, vn⟩⟩) (u := .int .i64 fk) (at1 _ _ l1) (by omega) rfl
  have l3 := ln _ ⟨⟨tk, tn⟩, ⟨fk, vn⟩⟩ l2
  have h4 := h3.putE l3 (fun _ => rfl) (i := 3) (y' := ⟨⟨tk, tn⟩, ⟨fk, fn⟩⟩) (u := .int .i64 fn) (at1 _ _ l2) (by omega) rfl
  rw [List.set_set, List.set_set, List.set_set, Nat.add_zero] at h4
  exact h4
theorem mv_cells {e : MvV} (h : OwC mvC 38 4 w base (.slice (some ⟨g, 0, none⟩) n c) ys) (hn : ys.length = n) (he : ys[a]? = some e) :
    (w.cell? ⟨g, a * 4, none⟩ = some (.int .i64 e.t.k) ∧ w.frozen? ⟨g, a * 4, none⟩ = false) ∧ (w.cell? ⟨g, a * 4 + 1, none⟩ = some (.int .i64 e.t.n) ∧ w.frozen? ⟨g, a * 4 + 1, none⟩ = false) ∧ (w.cell? ⟨g, a * 4 + 2, none⟩ = some (.int .i64 e.f.k) ∧ w.frozen? ⟨g, a * 4 + 2, none⟩ = false) ∧ (w.cell? ⟨g, a * 4 + 3, none⟩ = some (.int .i64 e.f.n) ∧ w.frozen? ⟨g, a * 4 + 3, none⟩ = false) :=
  ⟨h.at' hn (fun _ => rfl) (i := 0) he (by omega), h.at' hn (fun _ => rfl) (i := 1) he (by omega), h.at' hn (fun _ => rfl) (i := 2) he (by omega), h.at' hn (fun _ => rfl) (i := 3) he (by omega)⟩
end
/-- What is kept among the first b moves stands in front. -/
structure DelJ (q : MvV → Bool) (es : List MvV) (n a b : Nat) (ys : List MvV) : Prop where
  len : ys.length = n
  lt : a < b
  front : ys.take a = (es.take b).filter (fun e => !q e)
  rest : ∀ t, b ≤ t → ys[t]? = es[t]?
section
variable {q : MvV → Bool} {es : List MvV} {n a b : Nat} {ys : List MvV} {e : MvV}
theorem DelJ.start {i : Nat} (hn : es.length = n) (hi : es.findIdx q = i) (hl : i < n) : DelJ q es n i (i + 1) es := by
  subst hn
  subst hi
  refine ⟨rfl, by omega, ?_, fun _ _ => rfl⟩
  have hq := List.findIdx_getElem (xs := es) (p := q) (w := hl)
  rw [List.take_add_one, List.getElem?_eq_getElem hl, List.filter_append, List.filter_eq_self.2 (fun x hx => by
    obtain ⟨j, hj⟩ := List.getElem?_of_mem hx
    rw [List.getElem?_take] at hj
    split at hj
    · rename_i h
      have t := List.not_of_lt_findIdx (xs := es) (p := q) h
      have e := (List.getElem?_eq_some_iff.1 hj).2
      rw [e] at t
      simpa using t
    · cases hj)]
  simp [hq]
theorem DelJ.skip (h : DelJ q es n a b ys) (he : es[b]? = some e) (hq : q e = true) : DelJ q es n a (b + 1) ys := by
  refine ⟨h.len, by have := h.lt; omega, ?_, fun t ht => h.rest t (by omega)⟩
  rw [h.front, List.take_add_one, he, List.filter_append]
  simp [hq]
theorem DelJ.keep (h : DelJ q es n a b ys) (he : es[b]? = some e) (hq : q e = false) (hb : b < n) : DelJ q es n (a + 1) (b + 1) (ys.set a e) := by
  have hal : a < ys.length := by have := h.len; have := h.lt; omega
  refine ⟨by rw [List.length_set, h.len], by have := h.lt; omega, ?_, fun t ht => ?_⟩
  · rw [List.take_add_one, List.getElem?_set, if_pos rfl, if_pos hal, List.take_set_of_le (Nat.le_refl _), h.front, List.take_add_one, he, List.filter_append]
    simp [hq]
  · rw [List.getElem?_set, if_neg (by have := h.lt; omega)]
    exact h.rest t (by omega)
theorem DelJ.done (h : DelJ q es n a b ys) (hb : es.length ≤ b) : ys.take a = es.filter (fun e => !q e) := by rw [h.front, List.take_of_length_le hb]
end
theorem zero_mv (W : World) : Sem.run Try.prog (zeroValue 38) W = .ok (.agg #[.int .i64 0, .int .i64 0, .int .i64 0, .int .i64 0]) W := by kernel_rfl
set_option maxHeartbeats 4000000 in
set_option maxRecDepth 100000 in
theorem idelf_any (base : Nat) (v : Value) (es : List MvV) (w : World) (hn : es.length ≤ 1000) (hr : mvR es) (how : OwC mvC 38 4 w base v es) (hbase : base ≤ w.heap.size) :
    Calls Try.prog 30 #[v, .func (.func 32) #[] #[]] w fun e w' => ∃ v', e = .returned v' ∧ OwC mvC 38 4 w' base v' (leftO es) ∧ Below base w w' := by
  have hbm := hbase
  obtain ⟨Ae, ce, rfl, hc1, hc2⟩ := how.sl
  have HIX := hide (iidxS_any selfB es Ae ce w hn (mvs_own how hr) (fun W hW e he => iself_any e W))
  have HQ := hide (fun (e : MvV) (W : World) => iself_any e W)
  have HOW := hide how
  obtain ⟨n, hn'⟩ := letl es.length
  have HN := hide hn'
  rw [hn'] at hn hc1 HIX HOW ⊢
  clear hr how hn'
  go_enter Try.func30, Try.ntmps30
  go_upto_region 2 with (go_at_call 29; refine HIX.out.mono ?_; rintro e w1 ⟨z, rfl, hb1, hz⟩; have HB1 := hide hb1; have HZ := hide hz; clear hb1 hz)
  have w1s := HB1.out.size
  by_cases hin : es.findIdx selfB < n
  rotate_left
  · have hz : z = -1 := by have t := HZ.out; rw [HN.out, if_neg hin] at t; exact t
    subst hz
    have HF := hide (show leftO es = es from List.filter_eq_self.2 (fun e he => by
      have := HN.out
      cases h : selfB e
      · rfl
      · exact absurd (List.findIdx_lt_length.2 ⟨e, he, h⟩) (by omega)))
    go_wp2
    go_ret
    exact ⟨_, rfl, by rw [HF.out]; exact HOW.out.below HB1.out, HB1.out.mono hbm⟩
  obtain ⟨i, hi⟩ := letl (es.findIdx selfB)
  rw [hi] at hin
  have hz : z = (i : Int) := by have t := HZ.out; rw [HN.out, hi, if_pos hin] at t; exact t
  subst hz
  have HST := hide (DelJ.start (q := selfB) HN.out hi hin)
  obtain ⟨g, cap, hv, hg1, hg2, hg3, hg4, hgT⟩ := HOW.out.blk (by have := HN.out; omega)
  rw [HN.out] at hv
  injection hv with hA _ hcc
  subst hA
  subst hcc
  have HO1 := hide (show OwC mvC 38 4 w1 base (.slice (some ⟨g, 0, none⟩) n ce) es from HOW.out.below HB1.out)
  have HF1 := hide (show FrG (some g) w w1 from FrG.of_below HB1.out)
  have hi1 : ((i : Int) == -1) = false := by first | (simp; done) | (simp; omega)
  clear hi HZ hgT hg3
  go_wp2
  go_loopw [5, 6] (fun x y wr => ∃ (a b : Nat) (ys : List MvV), x = .int .i64 (a : Int) ∧ y = .int .i64 (b : Int) ∧ b ≤ n ∧ Hid (OwC mvC 38 4 wr base (.slice (some ⟨g, 0, none⟩) n ce) ys) ∧ Hid (DelJ selfB es n a b ys) ∧ FrG (some g) w wr) (fun _ y _ => n - (intOf y).toNat)
  case atStart => exact ⟨i, i + 1, es, rfl, by go_num, by omega, HO1, HST, HF1.out⟩
  case round =>
    obtain ⟨a, b, ys, rfl, rfl, hb, HOY, HDI, hfr⟩ := hrel
    obtain ⟨wo, rfl⟩ : ∃ wo, wo = wr := ⟨_, rfl⟩
    have HFR := hide hfr
    have lwo := hfr.size
    clear hfr
    have hab := HDI.out.lt
    have hgo : g < wo.heap.size := by omega
    by_cases hlt : b < n
    case neg =>
      obtain rfl : n = b := by omega
      have hnl : ¬ ((n : Int) < (n : Int)) := by omega
      obtain ⟨w6, hr6, ho6, hg6⟩ := run_clear_c (c := mvC) (T := 38) (sz := 4) (P := Try.prog) wo 22 0 Try.underlying22 zero_mv rfl (by simp [Value.cells, Value.oneCell']) (fun _ => rfl) (by omega) g a n ce (n - a) (ce - a) (by omega) (by omega) HDI.out.len HOY.out
      have HO6 := hide ho6
      have HG6 := hide (show FrG (some g) w w6 from HFR.out.trans ⟨hg6.os, hg6.tape, hg6.output, hg6.size, fun k hk ho => hg6.block k hk (fun e => ho e.symm)⟩)
      have HDN := hide (HDI.out.done (by have := HN.out; omega))
      have k1 : a ≤ n := by omega
      have k2 : a < ce := by omega
      have k3 : a ≤ ce := by omega
      have k4 : (0 : Int) ≤ (a : Int) := by omega
      have k5 : (a : Int) ≤ (n : Int) := by omega
      have k6 : (a : Int) ≤ (ce : Int) := by omega
      clear ho6 hg6
      go_wp2
      go_ret
      have e := HO6.out
      rw [HDN.out] at e
      exact ⟨_, rfl, e, HG6.out.below hbm (fun k hk => by injection hk with hk; omega)⟩
    have HLT := hide hlt
    obtain ⟨y, hy⟩ : ∃ y, es[b]? = some y := ⟨_, List.getElem?_eq_getElem (by have := HN.out; omega)⟩
    have hyb : ys[b]? = some y := by rw [HDI.out.rest b (Nat.le_refl _)]; exact hy
    obtain ⟨⟨d1, z1⟩, ⟨d2, z2⟩, ⟨d3, z3⟩, ⟨d4, z4⟩⟩ := mv_cells HOY.out HDI.out.len hyb
    obtain ⟨ua, hua⟩ : ∃ u, ys[a]? = some u := ⟨_, List.getElem?_eq_getElem (by have := HDI.out.len; omega)⟩
    have HUA := hide hua
    have HY := hide hy
    have hb0 : (0 : Int) ≤ (b : Int) := by omega
    have hb1 : (b : Int) < (n : Int) := by omega
    have ha0 : (0 : Int) ≤ (a : Int) := by omega
    have ha1 : (a : Int) < (n : Int) := by omega
    have HPUT := hide (fun (W : World) (h : OwC mvC 38 4 W base (.slice (some ⟨g, 0, none⟩) n ce) ys) => mv_put h HDI.out.len (a := a) (by omega) y)
    have HSK := hide (fun (hqv : selfB y = true) => HDI.out.skip HY.out hqv)
    have HKP := hide (fun (hqv : selfB y = false) => HDI.out.keep HY.out hqv (by have := HLT.out; omega))
    have HQK := hide (HQ.out y)
    obtain ⟨⟨tk, tn⟩, ⟨fk, fn⟩⟩ := y
    simp only at d1 d2 d3 d4
    unfold mvA at HQK
    simp only at HQK HPUT
    clear hyb hy hua z1 z2 z3 z4
    go_upto_region 8 with (fail)
    obtain ⟨w4, hw4⟩ : ∃ w4, w4 = wo.alloc (.cells #[.int .i64 tk, .int .i64 tn, .int .i64 fk, .int .i64 fn] 38) := ⟨_, rfl⟩
    obtain ⟨h4, hh4⟩ : ∃ h4, wo.heap.size = h4 := ⟨_, rfl⟩
    have HX4 := hide (show Box w4 h4 #[.int .i64 tk, .int .i64 tn, .int .i64 fk, .int .i64 fn] 38 by rw [hw4, ← hh4]; exact Box.new wo _ _)
    have HB4 := hide (show Below wo.heap.size wo w4 by rw [hw4]; exact alloc1 wo _)
    have HO4 := hide (show OwC mvC 38 4 w4 base (.slice (some ⟨g, 0, none⟩) n ce) ys from HOY.out.below HB4.out)
    have HF4 := hide (HFR.out.trans (FrG.of_below (own := some g) HB4.out))
    have hg4h : g < h4 := by omega
    rw [← hw4, hh4]
    clear hw4 hh4 d1 d2 d3 d4
    have l4 := HX4.out.lt
    have d1 := (HX4.out.cell 0 (v := .int .i64 tk) rfl).1
    have d2 := (HX4.out.cell 1 (v := .int .i64 tn) rfl).1
    have d3 := (HX4.out.cell 2 (v := .int .i64 fk) rfl).1
    have d4 := (HX4.out.cell 3 (v := .int .i64 fn) rfl).1
    replace HQK := hide (HQK.out w4)
    cases hqv : selfB ⟨⟨tk, tn⟩, ⟨fk, fn⟩⟩ with
    | true =>
      have HST2 := hide (HSK.out hqv)
      rw [hqv] at HQK
      clear hqv HSK HKP HPUT
      go_wp2_with (go_at_call 32; refine HQK.out.mono ?_; rintro e w5 ⟨rfl, hb5⟩; have HO5 := hide (HO4.out.below hb5); have HF5 := hide (HF4.out.trans (FrG.of_below (own := some g) hb5)); clear hb5)
      go_roundw
      case rel => exact ⟨a, b + 1, ys, rfl, by go_num, by have := HLT.out; omega, HO5, HST2, HF5.out⟩
      case measure => have := HLT.out; simp [intOf]; omega
    | false =>
      have HST2 := hide (HKP.out hqv)
      rw [hqv] at HQK
      clear hqv HSK HKP
      go_wp2_with (go_at_call 32; refine HQK.out.mono ?_; rintro e w5 ⟨rfl, hb5⟩; have HO5 := hide (HO4.out.below hb5); have HF5 := hide (HF4.out.trans (FrG.of_below (own := some g) hb5)); obtain ⟨f1, f2, f3, f4⟩ := And.intro ((hb5.cell (p := ⟨h4, 0, none⟩) l4).trans d1) (And.intro ((hb5.cell (p := ⟨h4, 1, none⟩) l4).trans d2) (And.intro ((hb5.cell (p := ⟨h4, 2, none⟩) l4).trans d3) ((hb5.cell (p := ⟨h4, 3, none⟩) l4).trans d4))); have l5 : h4 < w5.heap.size := (by have := hb5.size; omega); obtain ⟨⟨p1, z1⟩, ⟨p2, z2⟩, ⟨p3, z3⟩, ⟨p4, z4⟩⟩ := mv_cells HO5.out HDI.out.len HUA.out; have lg5 : g < w5.heap.size := (by omega); have HP5 := hide (HPUT.out w5 HO5.out); clear hb5 d1 d2 d3 d4)
      go_roundw
      case rel => exact ⟨a + 1, b + 1, ys.set a _, by go_num, by go_num, by have := HLT.out; omega, HP5, HST2, HF5.out.set.set.set.set⟩
      case measure => have := HLT.out; simp [intOf]; omega
end Go.Proofs.Ytkilfejcohnceaa
