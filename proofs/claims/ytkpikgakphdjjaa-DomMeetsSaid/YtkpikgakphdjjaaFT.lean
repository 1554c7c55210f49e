/- The contracts of slices.Reverse on a slice that the call owns, and of flow.Order. Condition: what comes next is there. -/
import Derived.Test.YtkpikgakphdjjaaFV
set_option linter.unusedSimpArgs false
set_option linter.unusedVariables false
namespace Go.Proofs.Ytkpikgakphdjjaa
open Go.RowKit

section
variable {w w' : World} {base : Nat} {e : TypeId} {k : IntKind} {zs : List Int}
theorem Ow.blk {A : Option Addr} {n c : Nat} (h : Ow w base e k (.slice A n c) zs) (hp : 0 < zs.length) :
    ∃ g, A = some ⟨g, 0, none⟩ ∧ base ≤ g ∧ g < w.heap.size ∧ (∀ j x, zs[j]? = some x → w.cell? ⟨g, j, none⟩ = some (.int k x)) ∧ (∀ j, w.frozen? ⟨g, j, none⟩ = false) := by
  obtain ⟨h1, h2⟩ := h
  rcases h2 with ⟨h2, h0⟩ | ⟨g, cap, cur, hv, hg, hh, hnc, hcm, hsz, htake⟩
  · omega
  · injection hv with hA hn hc
    subst hA
    subst hn
    subst hc
    have hO : w.ownsRow base e 1 (.slice (some ⟨g, 0, none⟩) zs.length c) zs.length (zs.map (Value.int k)) := ⟨h1, .inr ⟨g, c, cur, rfl, hg, hh, hnc, hcm, hsz, htake⟩⟩
    refine ⟨g, rfl, hg, (Array.getElem?_eq_some_iff.1 hh).1, fun j x hx => ?_, fun j => World.ownsRow.frozenAt hO j⟩
    have hj : j < zs.length := (List.getElem?_eq_some_iff.1 hx).1
    rw [World.ownsRow.cellAt hO j (by omega), List.getElem?_map, hx]; rfl
theorem Ow.putAt {g n c : Nat} (h : Ow w base e k (.slice (some ⟨g, 0, none⟩) n c) zs) (hn : zs.length = n) (j : Nat) (x : Int) :
    Ow (w.setCell ⟨g, j, none⟩ (.int k x)) base e k (.slice (some ⟨g, 0, none⟩) n c) (zs.set j x) := by
  subst hn
  have := (World.ownsRow.stored h j (.int k x)).1
  unfold Ow
  rw [List.map_set, List.length_set]
  exact this
end
/-- k elements from both ends have changed places. -/
def RevAt (zs : List Int) (k : Nat) (ys : List Int) : Prop := ys.length = zs.length ∧ ∀ t, t < zs.length → ys[t]? = if t < k ∨ zs.length ≤ t + k then zs[zs.length - 1 - t]? else zs[t]?
theorem RevAt.zero (zs : List Int) : RevAt zs 0 zs := ⟨rfl, fun t ht => by rw [if_neg (by omega)]⟩
theorem RevAt.step {zs ys : List Int} {k : Nat} {a b : Int} (h : RevAt zs k ys) (hk : 2 * k + 1 < zs.length) (ha : ys[k]? = some a) (hb : ys[zs.length - 1 - k]? = some b) : RevAt zs (k + 1) ((ys.set k b).set (zs.length - 1 - k) a) := by
  obtain ⟨h1, h2⟩ := h
  have a2 := h2 k (by omega)
  have b2 := h2 (zs.length - 1 - k) (by omega)
  rw [if_neg (by omega)] at a2 b2
  refine ⟨by simp [h1], fun t ht => ?_⟩
  by_cases e2 : t = zs.length - 1 - k
  · subst e2
    rw [List.getElem?_set_self (by simp [h1]; omega), if_pos (by omega)]
    have : zs.length - 1 - (zs.length - 1 - k) = k := by omega
    rw [this, ← a2, ha]
  · rw [List.getElem?_set_ne (by omega)]
    by_cases e1 : t = k
    · subst e1
      rw [List.getElem?_set_self (by omega), if_pos (by omega), ← b2, hb]
    · rw [List.getElem?_set_ne (by omega), h2 t ht]
      by_cases e3 : t < k ∨ zs.length ≤ t + k
      · rw [if_pos e3, if_pos (by omega)]
      · rw [if_neg e3, if_neg (by omega)]
theorem RevAt.done {zs ys : List Int} {k : Nat} (h : RevAt zs k ys) (hk : zs.length ≤ 2 * k + 1) : ys = zs.reverse := by
  obtain ⟨h1, h2⟩ := h
  apply List.ext_getElem?
  intro t
  by_cases ht : t < zs.length
  · rw [h2 t ht, List.getElem?_reverse ht]
    by_cases e : t < k ∨ zs.length ≤ t + k
    · rw [if_pos e]
    · rw [if_neg e]
      congr 1
      omega
  · rw [List.getElem?_eq_none (by omega), List.getElem?_eq_none (by simp; omega)]
theorem RevAt.lt {zs ys : List Int} {k : Nat} (h : RevAt zs k ys) : ys.length = zs.length := h.1
def RevL (w1 : World) (base g n c : Nat) (zs : List Int) (k : Nat) (wr : World) : Prop := ∃ ys, RevAt zs k ys ∧ Ow wr base 3 .i64 (.slice (some ⟨g, 0, none⟩) n c) ys ∧ Below base w1 wr
set_option maxHeartbeats 1000000 in
set_option maxRecDepth 100000 in
theorem reverse_any (v : Value) (zs : List Int) (base : Nat) (w : World) (hv : Ow w base 3 .i64 v zs) (hn : zs.length ≤ 1000) :
    Calls Try.prog 37 #[v] w fun e w' => e = .returned (.tuple #[]) ∧ Ow w' base 3 .i64 v zs.reverse ∧ Below base w w' := by
  obtain ⟨A, c, rfl, hc, hm, -⟩ := hv.sl
  by_cases h0 : zs.length = 0
  · have hz : zs = [] := List.eq_nil_of_length_eq_zero h0
    subst hz
    have HV := hide hv
    clear hv h0
    simp only [List.length_nil] at *
    go_enter Try.func37, Try.ntmps37
    go_wp2
    go_loop [2, 3] (fun i j => i = .int .i64 0 ∧ j = .int .i64 (-1)) (fun i j => 0)
    case atStart => exact ⟨rfl, rfl⟩
    case round =>
      obtain ⟨rfl, rfl⟩ := hrel
      go_wp2
      go_end0
      exact ⟨rfl, HV.out, Below.refl _ _⟩
  obtain ⟨g, rfl, hbg, hgl, -, -⟩ := hv.blk (by omega)
  obtain ⟨n, hn'⟩ : ∃ n, zs.length = n := ⟨_, rfl⟩
  have HN := hide hn'
  rw [hn'] at hv hc hn h0 ⊢
  have HV := hide hv
  clear hv hn'
  have e1 : IntKind.i64.wrap ((n : Int) - 1) = (n : Int) - 1 := IntWalk.i64_in _ ⟨by omega, by omega⟩
  go_enter Try.func37, Try.ntmps37
  go_wp2
  clear e1
  go_loopw [2, 3] (fun i j wr => ∃ k : Nat, 2 * k ≤ n + 1 ∧ i = .int .i64 k ∧ j = .int .i64 ((n : Int) - 1 - (k : Int)) ∧ Hid (RevL w base g n c zs k wr)) (fun i _ _ => n - (intOf i).toNat)
  case atStart => exact ⟨0, by omega, rfl, by simp, hide ⟨zs, RevAt.zero zs, HV.out, Below.refl _ _⟩⟩
  case round =>
    obtain ⟨k, hk, rfl, rfl, hL⟩ := hrel
    obtain ⟨ys, hr, ho, hb⟩ := hL.out
    by_cases hlt : 2 * k + 1 < n
    · obtain ⟨m, hm'⟩ : ∃ m : Nat, (n : Int) - 1 - (k : Int) = m := ⟨n - 1 - k, by omega⟩
      have hmn : m = n - 1 - k := by omega
      obtain ⟨a, ha⟩ : ∃ a, ys[k]? = some a := ⟨_, List.getElem?_eq_getElem (by have := hr.lt; have := HN.out; omega)⟩
      obtain ⟨b, hbb⟩ : ∃ b, ys[m]? = some b := ⟨_, List.getElem?_eq_getElem (by have := hr.lt; have := HN.out; omega)⟩
      obtain ⟨g', hg', -, hgl', hcell, hfr⟩ := ho.blk (by have := hr.lt; have := HN.out; omega)
      injection hg' with hg'
      injection hg' with hg'
      subst hg'
      have x1 := hcell k a ha
      have x2 := hcell m b hbb
      have f1 := hfr k
      have f2 := hfr m
      have HST := hide (show RevL w base g n c zs (k + 1) (((wr.setCell ⟨g, k, none⟩ (.int .i64 b)).setCell ⟨g, m, none⟩ (.int .i64 a)).drew) from ⟨_, by
          have := hr.step (a := a) (b := b) (by have := HN.out; omega) ha (by have := HN.out; rw [this, ← hmn]; exact hbb)
          rwa [HN.out, ← hmn] at this, ((ho.putAt (by rw [hr.lt, HN.out]) k b).putAt (by rw [List.length_set, hr.lt, HN.out]) m a).drewN 1, below_drewN ((hb.setCell (p := ⟨g, k, none⟩) hbg _).setCell (p := ⟨g, m, none⟩) hbg _) 1⟩)
      rw [hm']
      have hkm : k < m := by omega
      have hmlt : m < n := by omega
      have hkn : k < n := by omega
      have i1 : (0 : Int) ≤ (k : Int) := by omega
      have i2 : (k : Int) < (n : Int) := by omega
      have i3 : (0 : Int) ≤ (m : Int) := by omega
      have i4 : (m : Int) < (n : Int) := by omega
      have i5 : (k : Int) < (m : Int) := by omega
      have HM := hide hm'
      have hm1 : 1 ≤ m := by omega
      have hkm' : k ≠ m := by omega
      clear hr ho hb hL hcell hfr ha hbb hm' hmn
      go_wp2_with fail
      go_region
      all_goals
        go_wp2
        go_roundw
        case rel => exact ⟨k + 1, by omega, by go_num, by have := HM.out; exact congrArg (Value.int .i64) (by omega), HST⟩
        case measure => simp [intOf]; omega
    · have HE := hide (show ys = zs.reverse from hr.done (by rw [HN.out]; omega))
      have HO := hide (show Ow wr base 3 .i64 (.slice (some ⟨g, 0, none⟩) n c) zs.reverse by rw [← HE.out]; exact ho)
      have hnl : ¬ (k : Int) < (n : Int) - 1 - (k : Int) := by omega
      have HB := hide hb
      clear hr ho hb hL
      go_wp2
      go_end0
      exact ⟨rfl, HO.out, HB.out⟩
/-- The order of a walk: what it leaves, from behind. -/
def OrderOf (f : FunV) (l : List Int) : Prop := ∃ mF lF, Dfs f [0] (List.replicate f.blocks.length false) [] mF lF ∧ l = lF.reverse
theorem OrderOf.one {f : FunV} {l l' : List Int} (h : OrderOf f l) (h' : OrderOf f l') : l = l' := by
  obtain ⟨m, x, h1, rfl⟩ := h
  obtain ⟨m', x', h2, rfl⟩ := h'
  rw [(h1.one h2).2]
theorem Dfs.fewer {f : FunV} {cs : List Int} {m : List Bool} {l : List Int} {m' : List Bool} {l' : List Int} (h : Dfs f cs m l m' l') (hok : ∀ k v, v ∈ nxt f k → 0 ≤ v ∧ v < f.blocks.length) : m.length = f.blocks.length → (∀ c ∈ cs, 0 ≤ c ∧ c < f.blocks.length) → l'.length + m'.count false = l.length + m.count false ∧ m'.length = m.length := by
  induction h with
  | nil m l => intro _ _; exact ⟨rfl, rfl⟩
  | old hm _ ih => intro hl hc; exact ih hl (fun c h => hc c (List.mem_cons_of_mem _ h))
  | new hm h1 h2 ih1 ih2 =>
    intro hl hc
    have hcr := hc _ List.mem_cons_self
    obtain ⟨a1, a2⟩ := ih1 (by rw [meet_len, hl]) (fun v hv => hok _ v hv)
    obtain ⟨b1, b2⟩ := ih2 (by rw [a2, meet_len, hl]) (fun c h => hc c (List.mem_cons_of_mem _ h))
    have hcm := count_meet (by rw [hl]; omega) hm
    rw [List.length_append, List.length_singleton] at b1
    exact ⟨by omega, by rw [b2, a2, meet_len]⟩
theorem dfs_len {f : FunV} (hok : FlowOk f) (h1 : 1 ≤ f.blocks.length) {mF : List Bool} {lF : List Int} (h : Dfs f [0] (List.replicate f.blocks.length false) [] mF lF) : lF.length ≤ f.blocks.length := by
  have := (h.fewer hok.2.2 (by simp) (by intro c hc; simp at hc; subst hc; omega)).1
  rw [List.count_replicate_self, List.length_nil] at this
  omega
set_option maxHeartbeats 1000000 in
set_option maxRecDepth 100000 in
theorem forder_any (vk vb vs : Value) (f : FunV) (w : World) (B : Nat) (hB : B ≤ w.heap.size) (hi : FunI w (· < B) vk vb vs f) (hok : FlowOk f) (h1 : 1 ≤ f.blocks.length) :
    Calls Try.prog 14 #[.agg #[vk, vb, .int .i64 f.params, .int .i64 f.result, vs]] w fun e w' => ∃ v l, e = .returned v ∧ OrderOf f l ∧ Ow w' w.heap.size 3 .i64 v l ∧ Below w.heap.size w w' := by
  have HWK := hide (fun (W : World) (hW : Below w.heap.size w W) => walked_any vk vb vs f W B (by have := hW.size; omega) (hi.keep (up hW hB) (fun _ h => h)) hok h1)
  have HLEN := hide (fun mF lF h => @dfs_len f hok h1 mF lF h)
  have hls40 := hok.1
  obtain ⟨Ak, ck, rfl, hck, hmk⟩ := hi.1.open'
  obtain ⟨Ab, cb, rfl, hcb, hmb⟩ := hi.2.1.open'
  obtain ⟨As, cs, rfl, hcs, hms⟩ := hi.2.2.1.open'
  have HLS := hide (show f.blocks.length ≤ 40 from hls40)
  obtain ⟨ls, hls⟩ : ∃ ls, f.blocks.length = ls := ⟨_, rfl⟩
  obtain ⟨lk, hlk⟩ : ∃ lk, f.kinds.length = lk := ⟨_, rfl⟩
  obtain ⟨lb, hlb⟩ : ∃ lb, f.base.length = lb := ⟨_, rfl⟩
  obtain ⟨fp, hfp⟩ : ∃ fp, f.params = fp := ⟨_, rfl⟩
  obtain ⟨fr, hfr⟩ : ∃ fr, f.result = fr := ⟨_, rfl⟩
  have HT := hide (fun W => (show Calls Try.prog 35 #[.agg #[.slice Ak lk ck, .slice Ab lb cb, .int .i64 fp, .int .i64 fr, .slice As ls cs], .int .i64 0] W fun e w' => e = .returned (.bool true) ∧ Below W.heap.size W w' by have h := there_any 0 Ak Ab As lk ck lb cb ls cs fp fr W; rw [show inB 0 ((ls : Int) - 1) 0 = true by rw [inB_iff]; omega] at h; exact h))
  have HWK' := hide (fun (W : World) (hW : Below w.heap.size w W) => (show Calls Try.prog 36 #[.agg #[.slice Ak lk ck, .slice Ab lb cb, .int .i64 fp, .int .i64 fr, .slice As ls cs]] W fun e w' => ∃ v mF lF, e = .returned v ∧ Dfs f [0] (List.replicate f.blocks.length false) [] mF lF ∧ Ow w' W.heap.size 3 .i64 v lF ∧ Below W.heap.size W w' by
    have h := HWK.out W hW
    rw [hlk, hlb, hfp, hfr, hls] at h
    rw [hls]
    exact h))
  rw [hlk, hlb, hls, hfp, hfr]
  clear hi hok hls40 hck hcb hcs hls hlk hlb hfp hfr h1 HWK
  go_enter Try.func14, Try.ntmps14
  go_upto_region 1 with (fail)
  obtain ⟨w1, hw1⟩ : ∃ w1, w1 = w.alloc (.cells #[.slice Ak lk ck, .slice Ab lb cb, .int .i64 fp, .int .i64 fr, .slice As ls cs] 30) := ⟨_, rfl⟩
  have HX1 := hide (show Box w1 w.heap.size #[.slice Ak lk ck, .slice Ab lb cb, .int .i64 fp, .int .i64 fr, .slice As ls cs] 30 by rw [hw1]; exact Box.new w _ _)
  have HB1 := hide (show Below w.heap.size w w1 by rw [hw1]; exact alloc1 w _)
  rw [← hw1]
  clear hw1
  have l1 := HX1.out.lt
  have c0 := (HX1.out.cell 0 (v := .slice Ak lk ck) rfl).1
  have c1 := (HX1.out.cell 1 (v := .slice Ab lb cb) rfl).1
  have c2 := (HX1.out.cell 2 (v := .int .i64 fp) rfl).1
  have c3 := (HX1.out.cell 3 (v := .int .i64 fr) rfl).1
  have c4 := (HX1.out.cell 4 (v := .slice As ls cs) rfl).1
  go_upto_region 3 with (go_at_call 35; refine (HT.out w1).mono ?_; rintro e w2 ⟨rfl, hb2⟩; have HB2 := hide (HB1.out.trans (hb2.mono HB1.out.size)); have HX2 := hide (HX1.out.below hb2); clear hb2)
  clear c0 c1 c2 c3 c4
  have l2 := HX2.out.lt
  have c0 := (HX2.out.cell 0 (v := .slice Ak lk ck) rfl).1
  have c1 := (HX2.out.cell 1 (v := .slice Ab lb cb) rfl).1
  have c2 := (HX2.out.cell 2 (v := .int .i64 fp) rfl).1
  have c3 := (HX2.out.cell 3 (v := .int .i64 fr) rfl).1
  have c4 := (HX2.out.cell 4 (v := .slice As ls cs) rfl).1
  go_wp2_with (first
    | (go_at_call 37; refine (HREV.out).mono ?_; rintro e w4 ⟨rfl, ho4, hb4⟩)
    | (go_at_call 36; refine (HWK'.out w2 HB2.out).mono ?_; rintro e w3 ⟨v3, mF, lF, rfl, hD, ho3, hb3⟩; have HREV := hide (reverse_any v3 lF w.heap.size w3 (ho3.lower HB2.out.size) (by have := HLEN.out mF lF hD; have := HLS.out; omega)); have HD := hide hD; have HB3 := hide (HB2.out.trans (hb3.mono HB2.out.size)); clear hD ho3 hb3))
  go_ret
  exact ⟨v3, _, rfl, ⟨mF, lF, HD.out, rfl⟩, ho4, HB3.out.trans hb4⟩
end Go.Proofs.Ytkpikgakphdjjaa
