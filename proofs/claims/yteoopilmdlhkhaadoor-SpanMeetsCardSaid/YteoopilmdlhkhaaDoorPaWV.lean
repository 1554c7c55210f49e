/- Texts of several names, of which only what the statement needs is kept. -/
import Derived.Test.YteoopilmdlhkhaaDoorPaDA
import Derived.Test.YteoopilmdlhkhaaDoorPaHC
import Derived.Test.YteoopilmdlhkhaaDoorPaRDp
import Derived.Test.YteoopilmdlhkhaaDoorPaQF
import Derived.Test.YteoopilmdlhkhaaDoorPaQC
import Derived.Sort.MapsRangeIn
import Derived.RangeFuncKeeps
import Derived.Maps.OwnIn
import Derived.Maps.AppendAt
/- Layer 13: slices.Clone of blocks and of instructions; an own list of blocks, each with its own instructions. No condition but on lengths. -/
set_option linter.unusedSimpArgs false
set_option linter.unusedVariables false
namespace Go.Proofs.YteoopilmdlhkhaaDoor
open Go.RowKit

theorem vec_build {α β : Type} {sz : Nat} {P : Nat → Nat → α → Prop} {c : β → List Value} {w : World} (hc : ∀ y, (c y).length = sz) (g : β → α) (R : β → Prop) (b : Nat) (hP : ∀ o x, P b o x → ∃ y, g y = x ∧ R y ∧ ∀ (i : Nat) (u : Value), (c y)[i]? = some u → w.cell? ⟨b, o + i, none⟩ = some u) :
    ∀ (xs : List α) (o : Nat), (∀ (j : Nat) (x : α), xs[j]? = some x → P b (o + j * sz) x) → ∃ l : List β, l.map g = xs ∧ (∀ p ∈ l, R p) ∧ ∀ (j : Nat) (u : Value), (l.flatMap c)[j]? = some u → w.cell? ⟨b, o + j, none⟩ = some u
  | [], o, _ => ⟨[], rfl, by simp, fun j u hu => by simp at hu⟩
  | x :: xs, o, h => by
    obtain ⟨y, hy, hr, hcell⟩ := hP o x (by have := h 0 x rfl; rwa [Nat.zero_mul, Nat.add_zero] at this)
    obtain ⟨l, e1, e2, e3⟩ := vec_build hc g R b hP xs (o + sz) (fun j x hj => by
      have := h (j + 1) x (by simpa using hj)
      rwa [show o + (j + 1) * sz = o + sz + j * sz by rw [Nat.succ_mul]; omega] at this)
    refine ⟨y :: l, by simp [hy, e1], fun p hp => ?_, fun j u hu => ?_⟩
    · rcases List.mem_cons.1 hp with rfl | hp
      · exact hr
      · exact e2 p hp
    · rw [List.flatMap_cons] at hu
      by_cases hj : j < sz
      · rw [List.getElem?_append_left (by rw [hc y]; exact hj)] at hu
        exact hcell j u hu
      · rw [List.getElem?_append_right (by rw [hc y]; omega), hc y] at hu
        have := e3 (j - sz) u hu
        rwa [show o + sz + (j - sz) = o + j by omega] at this
theorem vec_cells {α β : Type} {sz : Nat} {P : Nat → Nat → α → Prop} {S : Nat → Prop} {c : β → List Value} {w : World} (hc : ∀ y, (c y).length = sz) (g : β → α) (R : β → Prop) (hP : ∀ b o x, S b → P b o x → ∃ y, g y = x ∧ R y ∧ ∀ (i : Nat) (u : Value), (c y)[i]? = some u → w.cell? ⟨b, o + i, none⟩ = some u) {A : Option Addr} {n cp : Nat} {xs : List α} (h : Vec sz P S (.slice A n cp) xs) :
    ∃ l : List β, l.map g = xs ∧ (∀ p ∈ l, R p) ∧ (0 < xs.length → ∃ b o, A = some ⟨b, o, none⟩ ∧ S b ∧ ∀ (j : Nat) (u : Value), (l.flatMap c)[j]? = some u → w.cell? ⟨b, o + j, none⟩ = some u) := by
  obtain ⟨A', c', e, h1, h2, h3⟩ := h
  injection e with eA _ _
  subst eA
  by_cases h0 : 0 < xs.length
  · obtain ⟨b, o, eA, hb, hx⟩ := h3 h0
    obtain ⟨l, e1, e2, e3⟩ := vec_build hc g R b (fun o x hx => hP b o x hb hx) xs o hx
    exact ⟨l, e1, e2, fun _ => ⟨b, o, eA, hb, e3⟩⟩
  · have hx : xs = [] := List.eq_nil_of_length_eq_zero (by omega)
    subst hx
    exact ⟨[], rfl, by simp, fun h => absurd h (by simp)⟩
end Go.Proofs.YteoopilmdlhkhaaDoor

/- Layer 16: own lists of spans; what a scan hands over. No condition. -/
set_option linter.unusedSimpArgs false
set_option linter.unusedVariables false
namespace Go.Proofs.YteoopilmdlhkhaaDoor
open Go.RowKit

def spC (x : SpV) : List Value := [.int .i64 x.v, .int .i64 x.f, .int .i64 x.t, .bool x.c]
theorem info_sp : (Tryd.prog.info? 23).map (fun i => (i.zero, i.size, i.bytes)) = some (some (.agg #[.int .i64 0, .int .i64 0, .int .i64 0, .bool false]), 4, 32) := by kernel_rfl
theorem SpsV.cells {w : World} {S : Nat → Prop} {A : Option Addr} {n c : Nat} {ss : List SpV} (h : SpsV w S (.slice A n c) ss) (h0 : 0 < ss.length) : ∃ b o, A = some ⟨b, o, none⟩ ∧ S b ∧ ∀ (j : Nat) (u : Value), (ss.flatMap spC)[j]? = some u → w.cell? ⟨b, o + j, none⟩ = some u := by
  obtain ⟨l, hl, -, hc⟩ := vec_cells (c := spC) (w := w) (fun _ => rfl) (fun p : SpV => p) (fun _ => True) (fun b o x _ ⟨⟨h0, h1, h2, h3⟩, _⟩ => ⟨x, rfl, trivial, fun i u hu => by
    have hi : i < 4 := (List.getElem?_eq_some_iff.1 hu).1
    rcases (show i = 0 ∨ i = 1 ∨ i = 2 ∨ i = 3 by omega) with rfl | rfl | rfl | rfl <;> simp [spC] at hu <;> subst hu <;> assumption⟩) h
  rw [List.map_id'] at hl
  subst hl
  exact hc h0
end Go.Proofs.YteoopilmdlhkhaaDoor

/- Layer 15: maps.Values at the map of spans; slices.AppendSeq, slices.Collect. No condition. -/
set_option linter.unusedSimpArgs false
set_option linter.unusedVariables false
namespace Go.Proofs.YteoopilmdlhkhaaDoor
open Go.RowKit Go.Maps Go.Shelf
attribute [local go_sem] Oper.semAt_some

/-- Spans that are just those of F, none twice. -/
def AllV15 (F : SpF15) (xs : List SpV) : Prop := (∀ s, s ∈ xs ↔ F s.v = some s) ∧ (xs.map (·.v)).Nodup
set_option maxRecDepth 100000 in
set_option maxHeartbeats 1000000 in
theorem values1_in15 (n l Bm b nn : Nat) (F : SpF15) (hF : ∀ v s, F v = some s → s.v = v ∧ i64R v) (hn : 1 ≤ n) (J Jx : List SpV → World → Prop)
    (hY : ∀ pre x W, J pre W → pre.length < nn → YieldAt Fence.wide (n - 1) Tryd.prog l #[spA x] W fun e W' =>
      (e = .returned (.bool true) ∧ J (pre ++ [x]) W' ∧ KeepsWalks W W') ∨ (e = .returned (.bool false) ∧ Jx (pre ++ [x]) W'))
    (W : World) (hJ : AbidesFrom W.heap.size J) (hm : W.cell? ⟨Bm, 0, none⟩ = some (.map (some b))) (hM : MpS15 W b nn F) (h0 : J [] W) :
    CallsIn Fence.wide n Tryd.prog 21 #[.func (.yield l) #[] #[], .pointer (some ⟨Bm, 0, none⟩)] W fun e W' => (∃ v, e = .returned v) ∧
      ((∃ xs, (AllV15 F xs ∧ xs.length ≤ nn) ∧ J xs W') ∨ (∃ pre, True ∧ Jx pre W')) := by
  obtain ⟨D, hown, hT⟩ := hM
  have hsz := hown.size_le
  refine callsIn_of_wp Tryd.func21 rfl trivial ?_ rfl
  simp only [Tryd.ntmps21, List.size_toArray, List.length_cons, List.length_nil, Nat.reduceAdd, Nat.reduceSub, Array.replicate_succ, Array.replicate_zero, List.push_toArray, List.append_toArray, List.nil_append, List.cons_append]
  gi_wp2_with (first
    | (gi_at_range; refine wpListIn_range_own _ rfl _ 49 rfl 3 23 keyed15 under_spans spElem15 b nn D rfl hown ?_; intro w0 hrg0 hg0 hs0)
    | gi_in)
  go_frame
  gi_loopw [4] (fun _ wr => ∃ (left : Lit → Bool) (cnt : Nat) (ps : List SpV), wr.ranges Tryd.prog 3 spElem15 b W.heap.size nn D left cnt ∧ ps.length + cnt ≤ Maps.size D ∧ CollectedI D left (ps.map (·.v)) ∧ (∀ p ∈ ps, F p.v = some p) ∧ J ps wr)
    (fun _ wr => wr.rangeLeft b W.heap.size)
  case atStart =>
    exact ⟨_, _, [], hrg0, by simp, CollectedI.start D, by simp, hJ [] W w0 none h0 hg0 (fun r e => by cases e)⟩
  case round =>
    obtain ⟨left, cnt, ps, hrg, hcs, hC, hV, hJs⟩ := hrel
    gi_wp2_with (first
      | (gi_at_next; refine wpListIn_next_ranges _ rfl _ rfl 3 keyed15 spElem15 (Value.int .i64) spA (fun key kl hk => by obtain ⟨x, -, hx, -⟩ := key15_inv hk; exact ⟨x, hx⟩) (fun v y hv => by obtain ⟨s, rfl, -⟩ := spElem15_inv hv; exact ⟨s, rfl⟩) b W.heap.size nn D left cnt rfl hrg ?_ ?_)
      | gi_in)
    · intro hc0 hl0
      gi_wp2
      go_end0
      refine ⟨⟨_, rfl⟩, .inl ⟨ps, ⟨⟨fun s => ⟨fun hs => hV s hs, fun hs => ?_⟩, hC.1⟩, by omega⟩, hJs⟩⟩
      have hR := (hF _ _ hs).2
      have hh : Maps.has D (.int .i64 s.v) = true := by rw [(hT _ hR).1, hs]; rfl
      obtain ⟨p, hp, hpv⟩ := List.mem_map.1 ((hC.2 s.v).2 ⟨hh, hl0 _⟩)
      have e := hV p hp
      rw [hpv, hs] at e
      injection e with e
      rw [e]
      exact hp
    · intro x c kl yd yp w2 cnt2 hkey hlk hv hat hrg2 hlt hg2 hs2 hen
      obtain ⟨x', hxR, ex, rfl⟩ := key15_inv hkey
      injection ex with _ ex
      subst ex
      obtain ⟨c', ec, ez⟩ := spElem15_inv hv
      obtain rfl := spA15_inj ec
      obtain rfl : yd = spD15 c := (Prod.mk.inj ez).1
      have hFc : F x = some c := by
        have hh : Maps.has D (.int .i64 x) = true := has_true_of_atKey hat
        rw [(hT _ hxR).1] at hh
        obtain ⟨s, hs⟩ := Option.isSome_iff_exists.1 hh
        have e := (hT _ hxR).2 s hs (spD15 c)
        rw [hat] at e
        rw [hs, spD15_inj e]
      have hcv : c.v = x := (hF _ _ hFc).1
      have HFC := hide (show F c.v = some c from by rw [hcv]; exact hFc)
      have HCV := hide hcv
      have hJ2 : J ps w2 := hJ ps wr w2 (some W.heap.size) hJs hg2 (fun r e => by cases e; exact ⟨Nat.le_refl _, hrg.iter_walk⟩)
      have hJ3 : J ps (w2.alloc (.cells #[.int .i64 c.v, .int .i64 c.f, .int .i64 c.t, .bool c.c] 23)) := hJ ps w2 _ none hJ2 (World.grownBy_alloc w2 _ none) (fun r e => by cases e)
      have hrg3 : (w2.alloc (.cells #[.int .i64 c.v, .int .i64 c.f, .int .i64 c.t, .bool c.c] 23)).ranges Tryd.prog 3 spElem15 b W.heap.size nn D (fun z => left z && !z.sameKey (.int .i64 x)) cnt2 := hrg2.of_walks (KeepsWalks.alloc _ _)
      obtain ⟨fn, tmps, assign, body, hy, hR⟩ := hY ps c _ hJ3 (by omega)
      have HC2 := hide (show CollectedI D (fun z => left z && !z.sameKey (.int .i64 x)) ((ps ++ [c]).map (·.v)) from by rw [List.map_append, List.map_cons, List.map_nil, HCV.out]; exact hC.step hlk hat)
      have HV2 := hide (show ∀ p ∈ ps ++ [c], F p.v = some p from fun p hp => (List.mem_append.1 hp).elim (hV p) (fun e => by simp at e; subst e; exact HFC.out))
      obtain ⟨cv, cf, ct, cc⟩ := c
      unfold spA at hen hy
      simp only at hy hR hrg3
      clear hs2 hFc hcv hJ3 hJ2 hv ez ec
      gi_wp2
      refine hR.mono ?_
      rintro e W3 (⟨rfl, hJ3, hk3⟩ | ⟨rfl, hJx3⟩)
      · gi_wp2
        have hrg4 := hrg3.of_walks hk3
        go_roundw
        case rel => exact ⟨_, cnt2, ps ++ [⟨cv, cf, ct, cc⟩], hrg4, by simp; omega, HC2.out, HV2.out, hJ3⟩
        case measure => rw [hrg4.left_eq, hrg.left_eq]; exact hlt
      · gi_wp2
        refine bodyPost_ret (results_none rfl _ _ _) rfl ?_
        exact ⟨⟨_, rfl⟩, .inr ⟨_, trivial, hJx3⟩⟩
theorem values_stops15 (n Bm b nn : Nat) (F : SpF15) (hF : ∀ v s, F v = some s → s.v = v ∧ i64R v) (hn : 1 ≤ n) (w : World) (hm : w.cell? ⟨Bm, 0, none⟩ = some (.map (some b))) (hBm : Bm < w.heap.size) (hM : MpS15 w b nn F) :
    SeqStopsK Fence.wide n Tryd.prog 21 #[.pointer (some ⟨Bm, 0, none⟩)] (fun s : SpV => #[spA s]) KeepsWalks (fun xs => AllV15 F xs ∧ xs.length ≤ nn) (fun _ => True) nn w := fun l J Jx W hW hJ _ hY h0 =>
  values1_in15 n l Bm b nn F hF hn J Jx hY W hJ ((hW.cell (p := ⟨Bm, 0, none⟩) hBm).trans hm) (hM.below hW) h0
set_option maxRecDepth 100000 in
theorem values_any15 (b : Nat) (w : World) :
    Calls Tryd.prog 14 #[.map (some b)] w fun e w' => e = .returned (.func (.func 21) #[] #[.pointer (some ⟨w.heap.size, 0, none⟩)]) ∧ w' = w.alloc (.cells #[.map (some b)] 49) := by
  go_enter Tryd.func14, Tryd.ntmps14
  go_wp2
  go_ret
  exact ⟨rfl, rfl⟩
end Go.Proofs.YteoopilmdlhkhaaDoor
