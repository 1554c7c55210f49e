/- Layer 11, the program: live.prevs: of each block those that lead to it. No condition but that blocks are few. -/
import Derived.Test.YteoopilmdlhkhaaDoorPaJD
set_option linter.unusedSimpArgs false
set_option linter.unusedVariables false
namespace Go.Proofs.YteoopilmdlhkhaaDoor
open Go.RowKit

theorem info_sint : (Tryd.prog.info? 26).map (fun i => (i.zero, i.size, i.bytes)) = some (some (.slice none 0 0), 1, 24) := by kernel_rfl
/-- A list of own lists of ints: the box of the n values, the lists; no two in one block. -/
structure PV (w : World) (g base n : Nat) (vs : Nat → Value) (zs : Nat → List Int) : Prop where
  box : Box w g ((List.range n).map vs).toArray 26
  own : ∀ b, b < n → Ow w base 3 .i64 (vs b) (zs b)
  apart : ∀ b c k, b < n → c < n → b ≠ c → (vs b).ownBlock = some k → (vs c).ownBlock ≠ some k
  gb : g < base
section
variable {w w' w4 w5 : World} {g base n b : Nat} {vs : Nat → Value} {zs : Nat → List Int}
theorem owKept {w w' : World} {base : Nat} {v : Value} {l : List Int} (h : Ow w base 3 .i64 v l) (hk : ∀ k, v.ownBlock = some k → w'.heap[k]? = w.heap[k]?) : Ow w' base 3 .i64 v l := by
  unfold Ow at h ⊢
  exact rowKept h hk
theorem PV.ini (h : Box w g ((List.replicate n (Value.slice none 0 0))).toArray 26) (hg : g < base) : PV w g base n (fun _ => .slice none 0 0) (fun _ => []) :=
  ⟨by rw [show (List.range n).map (fun _ => Value.slice none 0 0) = List.replicate n (Value.slice none 0 0) by simp [List.map_const']]; exact h, fun b hb => Ow.nil _ _ _ _, fun b c k _ _ _ h => (by cases h), hg⟩
theorem PV.below (h : PV w g base n vs zs) (hb : Below w.heap.size w w') : PV w' g base n vs zs :=
  ⟨h.box.below hb, fun b hl => (h.own b hl).below hb, h.apart, h.gb⟩
theorem PV.cell (h : PV w g base n vs zs) (hb : b < n) : ∃ A c, vs b = .slice A (zs b).length c ∧ w.cell? ⟨g, b, none⟩ = some (.slice A (zs b).length c) ∧ w.frozen? ⟨g, b, none⟩ = false := by
  obtain ⟨A, c, e, -⟩ := (h.own b hb).sl
  obtain ⟨h4, h5⟩ := h.box.cell b (v := vs b) (by simp [hb])
  rw [e] at h4
  exact ⟨A, c, e, h4, h5⟩
theorem PV.app {z : Int} {v5 : Value} (h : PV w g base n vs zs) (hb : b < n) (hb4 : Below w.heap.size w w4) (hgr : w4.grownBy w5 (vs b).ownBlock) (ho5 : Ow w5 base 3 .i64 v5 (zs b ++ [z])) (hv5 : ∀ k, v5.ownBlock = some k → (vs b).ownBlock = some k ∨ w.heap.size ≤ k) :
    PV (w5.setCell ⟨g, b, none⟩ v5) g base n (fun x => if x = b then v5 else vs x) (fun x => if x = b then zs b ++ [z] else zs x) := by
  have hgl := h.box.lt
  have hgn : (vs b).ownBlock ≠ some g := fun e => by
    have := (Ow.row (h.own b hb) g e).1
    have := h.gb
    omega
  have hbx5 : Box w5 g ((List.range n).map vs).toArray 26 := (hgr.block g (by have := hb4.size; omega) (fun e => hgn e.symm)).trans (h.box.below hb4)
  refine ⟨?_, fun x hx => ?_, fun x y k hx hy hxy e e' => ?_, h.gb⟩
  · have h3 := hbx5.set b v5
    have e : (((List.range n).map vs).toArray).setIfInBounds b v5 = ((List.range n).map (fun x => if x = b then v5 else vs x)).toArray := by
      rw [List.setIfInBounds_toArray]
      congr 1
      apply List.ext_getElem
      · simp
      · intro i h1 h2
        rw [List.getElem_set]
        simp only [List.getElem_map, List.getElem_range]
        by_cases e : b = i
        · subst e; simp
        · rw [if_neg e, if_neg (fun h => e h.symm)]
    rw [e] at h3
    exact h3
  · by_cases e : x = b
    · simp only [if_pos e]
      exact owKept ho5 fun k hk => heap_setCell_other w5 ⟨g, b, none⟩ k v5 (by have := (Ow.row ho5 k hk).1; have := h.gb; show k ≠ g; omega)
    · simp only [if_neg e]
      refine owKept (h.own x hx) fun k hk => ?_
      have h1 := Ow.row (h.own x hx) k hk
      have h2 : k < w.heap.size := by
        obtain ⟨c, fz, h3⟩ := h1.2
        exact (Array.getElem?_eq_some_iff.1 h3).1
      exact (heap_setCell_other w5 ⟨g, b, none⟩ k v5 (by have := h.gb; show k ≠ g; omega)).trans ((hgr.block k (by have := hb4.size; omega) (fun e' => h.apart x b k hx hb e hk e'.symm)).trans (hb4.block k h2))
  · have hlt : ∀ x k, x < n → (vs x).ownBlock = some k → k < w.heap.size := fun x k hx hk => by
      obtain ⟨c, fz, h3⟩ := (Ow.row (h.own x hx) k hk).2
      exact (Array.getElem?_eq_some_iff.1 h3).1
    by_cases e1 : x = b
    · have e2 : ¬ y = b := fun h => hxy (e1.trans h.symm)
      simp only [if_pos e1] at e
      simp only [if_neg e2] at e'
      rcases hv5 k e with h1 | h1
      · exact h.apart b y k hb hy (fun h => e2 h.symm) h1 e'
      · have := hlt y k hy e'
        omega
    · simp only [if_neg e1] at e
      by_cases e2 : y = b
      · simp only [if_pos e2] at e'
        rcases hv5 k e' with h1 | h1
        · exact h.apart x b k hx hb e1 e h1
        · have := hlt x k hx e
          omega
      · simp only [if_neg e2] at e'
        exact h.apart x y k hx hy hxy e e'
theorem PV.ext {zs' : Nat → List Int} (h : PV w g base n vs zs) (e : ∀ b, b < n → zs b = zs' b) : PV w g base n vs zs' := ⟨h.box, fun b hb => e b hb ▸ h.own b hb, h.apart, h.gb⟩
end
theorem edges_in {f : FunV} (hok : FlowOk f) {e : Int × Int} (h : e ∈ edgesN f) : 0 ≤ e.1 ∧ e.1 < f.blocks.length ∧ 0 ≤ e.2 ∧ e.2 < f.blocks.length := by
  unfold edgesN edgesTo at h
  simp only [List.mem_flatMap, List.mem_range, List.mem_map] at h
  obtain ⟨i, hi, v, hv, rfl⟩ := h
  have := hok.2.2 i v hv
  exact ⟨by simp, by simp; omega, this.1, this.2⟩
theorem step_append_iv {w : World} {ops : Array Oper} {o : Oper} {a : Act} {K : Act → World → Prop} {Q : Exit → Act → World → Prop} {E : Prop} (hgd : o.guard = none) (s x : Operand)
    (ho : o.op = .call { callee := .builtin .append, args := #[s, x], argTypes := #[26, 26] })
    (base : Nat) (v : Value) (zs : List Int) (n : Nat) (hln : zs.length = n) (hs : a.eval s = v) (hown : Ow w base 3 .i64 v zs) (y : Int) (H : Nat) (hx : a.eval x = .slice (some ⟨H, 0, none⟩) 1 1) (hH : Box w H #[.int .i64 y] 3)
    (hroom : n < 1000000) (hbase : base ≤ w.heap.size)
    (h : ∀ g cap w', Ow w' base 3 .i64 (.slice (some ⟨g, 0, none⟩) (n + 1) cap) (zs ++ [y]) → w.grownBy w' v.ownBlock → (v.ownBlock = some g ∨ g = w.heap.size) → g < w'.heap.size → K (a.put o.dst (.slice (some ⟨g, 0, none⟩) (n + 1) cap)) w') :
    if Region.wanted o (yielded ops a.tmps) = true then Oper.wp Tryd.prog o a w K Q else E := by
  subst hln
  obtain ⟨i0, hi0, iz0, iz1, iz2⟩ := info_parts info_i64
  have hb := World.news_of_block hH
  exact step_append_lies w hgd s x _ ho base 3 i0 _ 1 8 (by kernel_rfl) hi0 iz0 iz1 iz2 rfl (by omega) v zs.length (zs.map (Value.int .i64)) hs hown ⟨H, 0, none⟩ 1 1 [.int .i64 y] hx rfl
    hb (by simp [Value.oneCell']) (by omega) (by simp only [maxLen]; omega) (by omega) hbase _ rfl
    fun g cap w' h1 h2 h3 h4 => h g cap w' (by unfold Ow; rw [List.length_append, List.map_append]; exact h1) h2 h3 h4
set_option maxHeartbeats 4000000 in
set_option maxRecDepth 100000 in
theorem prevs_any (vk vb vs : Value) (f : FunV) (w : World) (B : Nat) (hB : B ≤ w.heap.size) (hi : FunI w (· < B) vk vb vs f) (hok : FlowOk f) :
    Calls Tryd.prog 85 #[.agg #[vk, vb, .int .i64 f.params, .int .i64 f.result, vs]] w fun e w' => ∃ (g base : Nat) (us : Nat → Value), e = .returned (.slice (some ⟨g, 0, none⟩) f.blocks.length f.blocks.length) ∧ PV w' g base f.blocks.length us (fun b => prevN f (b : Int)) ∧ w.heap.size ≤ g ∧ Below w.heap.size w w' := by
  have HED := hide (fun (W : World) (hW : Below w.heap.size w W) => fedges_any vk vb vs f W B (by have := hW.size; omega) (hi.keep (up hW hB) (fun _ h => h)) hok)
  obtain ⟨Ak, ck, rfl, hck, hmk⟩ := hi.1.open'
  obtain ⟨Ab, cb, rfl, hcb, hmb⟩ := hi.2.1.open'
  obtain ⟨As, cs, rfl, hcs, hms⟩ := hi.2.2.1.open'
  obtain ⟨i0, hi0, iz0, iz1, iz2⟩ := info_parts info_i64
  have HI0 := hide hi0
  have hel := edgesN_len hok
  have hls := hok.1
  have HEI := hide (fun (e : Int × Int) (h : e ∈ edgesN f) => edges_in hok h)
  have HPA := hide (fun (b : Nat) k h => @selTo_all f (b : Int) k h)
  generalize edgesN f = es at *
  obtain ⟨PF, hPF⟩ : ∃ PF : Nat → List Int, (fun b : Nat => prevN f (b : Int)) = PF := ⟨_, rfl⟩
  have hPF2 : ∀ b : Nat, prevN f (b : Int) = PF b := fun b => by rw [← hPF]
  simp only [hPF2] at HPA ⊢
  obtain ⟨n, hn⟩ : ∃ n, es.length = n := ⟨_, rfl⟩
  rw [hn] at hel HPA
  have HN := hide hn
  generalize f.kinds.length = lk, f.base.length = lb, f.blocks.length = ls, f.params = fp, f.result = fr at *
  clear hi hok hn hi0 hPF hPF2 hB
  have hmake : ∀ W : World, (Instr.makeSlice 131 (.int .i64 (ls : Int)) (.int .i64 (ls : Int))).run Tryd.prog W = .ok (.slice (some ⟨W.heap.size, 0, none⟩) ls ls) (W.alloc (.cells (madeCells (Value.slice none 0 0).cells (ls * 1)) 26)) := fun W => mk_run 131 26 Tryd.underlying131 info_sint (by omega) ls (by omega) W
  obtain ⟨mc, hmc⟩ : ∃ mc, madeCells (Value.slice none 0 0).cells (ls * 1) = mc := ⟨_, rfl⟩
  rw [hmc] at hmake
  have HMC := hide (show mc = (List.replicate ls (Value.slice none 0 0)).toArray by rw [← hmc]; exact madeCells_su _)
  clear hmc
  go_enter Tryd.func85, Tryd.ntmps85
  go_upto_region 1 with (fail)
  obtain ⟨w1, hw1⟩ : ∃ w1, w1 = w.alloc (.cells #[.slice Ak lk ck, .slice Ab lb cb, .int .i64 fp, .int .i64 fr, .slice As ls cs] 34) := ⟨_, rfl⟩
  obtain ⟨h5, hh5⟩ : ∃ h5, w.heap.size = h5 := ⟨_, rfl⟩
  have HX0 := hide (show Box w1 (h5) #[.slice Ak lk ck, .slice Ab lb cb, .int .i64 fp, .int .i64 fr, .slice As ls cs] 34 by rw [hw1, ← hh5]; have t := Box.new w #[.slice Ak lk ck, .slice Ab lb cb, .int .i64 fp, .int .i64 fr, .slice As ls cs] 34; (try simp only [World.size_alloc] at t); exact t)
  have HB1 := hide (show Below w.heap.size w w1 by rw [hw1]; exact ((Below.refl _ _).alloc (Nat.le_refl _) _))
  have w1s := HB1.out.size
  have w1z := hide (show w1.heap.size = h5 + 1 by rw [hw1, ← hh5]; simp only [World.size_alloc])
  have HK0 := hide (fun (W : World) (hW : Below w1.heap.size w1 W) => (And.intro ((HX0.out.below hW).cell 0 (v := .slice Ak lk ck) rfl).1 (And.intro ((HX0.out.below hW).cell 1 (v := .slice Ab lb cb) rfl).1 (And.intro ((HX0.out.below hW).cell 2 (v := .int .i64 fp) rfl).1 (And.intro ((HX0.out.below hW).cell 3 (v := .int .i64 fr) rfl).1 ((HX0.out.below hW).cell 4 (v := .slice As ls cs) rfl).1)))))
  have lHX0 := HX0.out.lt
  have h5g : w.heap.size ≤ h5 := by omega
  rw [← hw1, hh5]
  clear hw1 hh5
  obtain ⟨c0, c1, c2, c3, c4⟩ := HK0.out w1 (Below.refl _ _)
  go_upto_region 2 with (fail)
  obtain ⟨w2, hw2⟩ : ∃ w2, w2 = w1.alloc (.cells mc 26) := ⟨_, rfl⟩
  obtain ⟨g, hg⟩ : ∃ g, w1.heap.size = g := ⟨_, rfl⟩
  have HB2 := hide (show Below w1.heap.size w1 w2 by rw [hw2]; exact alloc1 w1 _)
  have HX2 := hide (show Box w2 g ((List.replicate ls (Value.slice none 0 0))).toArray 26 by rw [hw2, ← hg, ← HMC.out]; exact Box.new w1 _ _)
  have hgg : w.heap.size ≤ g := by have := HB1.out.size; omega
  have hg2 := HX2.out.lt
  rw [← hw2, hg]
  clear hw2 hg hmake c0 c1 c2 c3 c4
  obtain ⟨c0, c1, c2, c3, c4⟩ := HK0.out w2 HB2.out
  go_wp2_with (go_at_call 92; refine (HED.out w2 (HB1.out.trans (HB2.out.mono HB1.out.size))).mono ?_; rintro e w3 ⟨ve, rfl, hoe, hb3⟩; obtain ⟨Ae, ce, hve, hce, hme, hse⟩ := hoe.sl; have HSE := hide hse; have HB3 := hide hb3; have HOE := hide hoe; rw [HN.out] at hve; subst hve; clear hb3 hoe hme hse)
  rw [HN.out] at hce
  have h23 := HB3.out.size
  have lg3 : g < w3.heap.size := by omega
  have HPV0 := hide (PV.ini (base := w3.heap.size) (HX2.out.below HB3.out) lg3)
  have HW3 := hide ((HB1.out.trans (HB2.out.mono HB1.out.size)).trans (HB3.out.mono (by have := HB1.out.size; have := HB2.out.size; omega)))
  clear c0 c1 c2 c3 c4
  go_loopw [13] (fun i wr => ∃ (k : Nat) (us : Nat → Value), k ≤ n ∧ i = .int .i64 k ∧ Hid (PV wr g w3.heap.size ls us (fun b => selTo es (b : Int) k)) ∧ Hid (Read g w3 wr)) (fun i _ => n - (intOf i).toNat)
  case atStart => exact ⟨0, _, Nat.zero_le _, rfl, HPV0, hide (Read.refl _ _)⟩
  case round =>
    obtain ⟨k, us, hk, rfl, HPV, HRD⟩ := hrel
    obtain ⟨wo, rfl⟩ : ∃ wo, wo = wr := ⟨_, rfl⟩
    have lwo := HRD.out.size
    have lg : g < wo.heap.size := by omega
    by_cases hlt : k < n
    case neg =>
      obtain rfl : n = k := by omega
      have hnl : ¬ ((n : Int) < (n : Int)) := by omega
      have HF := hide (HPV.out.ext (zs' := PF) fun b _ => HPA.out b n (Nat.le_refl _))
      go_wp2
      go_ret
      have hfin : Below w.heap.size w wo := HW3.out.trans ⟨HRD.out.os, HRD.out.tape, HRD.out.output, HRD.out.size, fun kk hkk => HRD.out.block kk (by have := HW3.out.size; omega) (by omega)⟩
      first | exact ⟨g, rfl, ⟨_, us, HF.out⟩, hgg, hfin⟩ | exact ⟨g, _, us, rfl, HF.out, hgg, hfin⟩ | trace_state
    obtain ⟨y, hy⟩ : ∃ y, es[k]? = some y := ⟨_, List.getElem?_eq_getElem (by have := HN.out; omega)⟩
    obtain ⟨be, oe, rfl, hbe, hce'⟩ := HSE.out (by have := HN.out; omega)
    obtain ⟨y1, y2⟩ := hce' k y hy
    have hbg : be ≠ g := by have := (World.ownsRow.lt HOE.out be rfl).1; omega
    have d1 := (World.cell?_of_block (a := ⟨be, oe + k * 2, none⟩) (HRD.out.block be hbe hbg)).trans y1
    have d2 := (World.cell?_of_block (a := ⟨be, oe + k * 2 + 1, none⟩) (HRD.out.block be hbe hbg)).trans y2
    have hei := HEI.out y (List.mem_of_getElem? hy)
    have HYES := hide (fun (b : Int) (h : y.2 = b) => selTo_yes hy h)
    have HNO := hide (fun (b : Int) (h : ¬ y.2 = b) => selTo_no hy h)
    obtain ⟨ya, yb⟩ := y
    simp only at d1 d2 hei HYES HNO
    obtain ⟨b, rfl⟩ : ∃ b : Nat, yb = (b : Int) := ⟨yb.toNat, by omega⟩
    have hbn : b < ls := by omega
    have HYA := hide (show i64R ya by unfold i64R; omega)
    have hbI0 : (0 : Int) ≤ (b : Int) := by omega
    have hbI1 : (b : Int) < (ls : Int) := by omega
    have hk0 : (0 : Int) ≤ (k : Int) := by omega
    have hk1 : (k : Int) < (n : Int) := by omega
    have hbel : be < wo.heap.size := by omega
    clear hce' y1 y2 hy hei
    go_upto_region 5 with (fail)
    obtain ⟨w4, hw4⟩ : ∃ w4, w4 = wo.alloc (.cells #[.int .i64 ya, .int .i64 (b : Int)] 144) := ⟨_, rfl⟩
    obtain ⟨h4, hh4⟩ : ∃ h4, wo.heap.size = h4 := ⟨_, rfl⟩
    have HFX0 := hide (show Box w4 (h4) #[.int .i64 ya, .int .i64 (b : Int)] 144 by rw [hw4, ← hh4]; have t := Box.new wo #[.int .i64 ya, .int .i64 (b : Int)] 144; (try simp only [World.size_alloc] at t); exact t)
    have HB4 := hide (show Below wo.heap.size wo w4 by rw [hw4]; exact ((Below.refl _ _).alloc (Nat.le_refl _) _))
    have w4s := HB4.out.size
    have w4z := hide (show w4.heap.size = h4 + 1 by rw [hw4, ← hh4]; simp only [World.size_alloc])
    have HFK0 := hide (fun (W : World) (hW : Below w4.heap.size w4 W) => (And.intro ((HFX0.out.below hW).cell 0 (v := .int .i64 ya) rfl).1 ((HFX0.out.below hW).cell 1 (v := .int .i64 (b : Int)) rfl).1))
    have lHFX0 := HFX0.out.lt
    have h4g : wo.heap.size ≤ h4 := by omega
    rw [← hw4, hh4]
    clear hw4 hh4
    have lg4 : g < w4.heap.size := by have := HB4.out.size; omega
    have h34 : w3.heap.size ≤ w4.heap.size := by have := HB4.out.size; omega
    have lh4 := HFX0.out.lt
    clear d1 d2
    obtain ⟨A0, c0, hvb, z3, f3⟩ := HPV.out.cell hbn
    obtain ⟨n0, hn0⟩ : ∃ n0, (selTo es (b : Int) k).length = n0 := ⟨_, rfl⟩
    have HN0 := hide hn0
    have HVB := hide hvb
    have hsl := selTo_len es (b : Int) k
    rw [hn0] at z3 hsl
    clear hvb hn0
    have HPV4 := hide (HPV.out.below HB4.out)
    have z4 := (HB4.out.cell (p := ⟨g, b, none⟩) lg).trans z3
    have e0 := HFK0.out w4 (Below.refl _ _)
    obtain ⟨e1, e2⟩ := e0
    have HS3 := hide (fun (W : World) (hW : Below w4.heap.size w4 W) => And.intro (HFK0.out W hW) ((hW.cell (p := ⟨g, b, none⟩) lg4).trans z4))
    refine wp_region_til (fun w' => (w'.cell? ⟨h4, 0, none⟩ = some (.int .i64 ya) ∧ w'.cell? ⟨h4, 1, none⟩ = some (.int .i64 (b : Int))) ∧ w'.cell? ⟨g, b, none⟩ = some (.slice A0 n0 c0)) 13 (by kernel_rfl) ⟨⟨e1, e2⟩, z4⟩ ?_
    have hSd := HS3.out (w4.drewN 1) (below_drewN (Below.refl _ _) 1)
    refine wpTil_move (i := 0) (v := ?_) rfl (by kernel_rfl) (by kernel_rfl) (by kernel_rfl) (fun _ _ _ h => h) (by rfl) (Or.inl ⟨by rfl, ?_⟩) (Or.inr hSd) ?_
    rotate_left
    focus
      intro w hSw
      go_simp
      try with_reducible rfl
    (try simp only [List.getElem_toArray, List.getElem_cons_succ, List.getElem_cons_zero, Act.put, List.setIfInBounds_toArray, List.set_cons_zero, List.set_cons_succ])
    refine wpTil_move (i := 1) (v := ?_) rfl (by kernel_rfl) (by kernel_rfl) (by kernel_rfl) (fun _ _ _ h => h) (by rfl) (Or.inl ⟨by rfl, ?_⟩) (Or.inr hSd) ?_
    rotate_left
    focus
      intro w hSw
      go_simp
      try with_reducible rfl
    (try simp only [List.getElem_toArray, List.getElem_cons_succ, List.getElem_cons_zero, Act.put, List.setIfInBounds_toArray, List.set_cons_zero, List.set_cons_succ])
    refine wpTil_move (i := 3) (v := ?_) rfl (by kernel_rfl) (by kernel_rfl) (by kernel_rfl) (fun _ _ _ h => h) (by rfl) (Or.inl ⟨by rfl, ?_⟩) (Or.inr hSd) ?_
    rotate_left
    focus
      intro w hSw
      go_simp
      try with_reducible rfl
    (try simp only [List.getElem_toArray, List.getElem_cons_succ, List.getElem_cons_zero, Act.put, List.setIfInBounds_toArray, List.set_cons_zero, List.set_cons_succ])
    refine wpTil_move (i := 4) (v := ?_) rfl (by kernel_rfl) (by kernel_rfl) (by kernel_rfl) (fun _ _ _ h => h) (by rfl) (Or.inl ⟨by rfl, ?_⟩) (Or.inr hSd) ?_
    rotate_left
    focus
      intro w hSw
      go_simp
      try with_reducible rfl
    (try simp only [List.getElem_toArray, List.getElem_cons_succ, List.getElem_cons_zero, Act.put, List.setIfInBounds_toArray, List.set_cons_zero, List.set_cons_succ])
    refine wpTil_move (i := 8) (v := ?_) rfl (by kernel_rfl) (by kernel_rfl) (by kernel_rfl) (fun _ _ _ h => h) (by rfl) (Or.inl ⟨by rfl, ?_⟩) (Or.inr hSd) ?_
    rotate_left
    focus
      intro w hSw
      go_simp
      try with_reducible rfl
    (try simp only [List.getElem_toArray, List.getElem_cons_succ, List.getElem_cons_zero, Act.put, List.setIfInBounds_toArray, List.set_cons_zero, List.set_cons_succ])
    refine wpTil_take (i := 2) (v := ?_) rfl (by kernel_rfl) (by kernel_rfl) (by kernel_rfl) (fun _ _ _ h => h) (by rfl) (by kernel_rfl) (by kernel_rfl) (Or.inl ⟨by rfl, ?_⟩) hSd ?_
    rotate_left
    focus
      intro w hSw
      obtain ⟨⟨s0, s1⟩, s2⟩ := hSw
      go_simp
      try with_reducible rfl
    (try simp only [List.getElem_toArray, List.getElem_cons_succ, List.getElem_cons_zero, Act.put, List.setIfInBounds_toArray, List.set_cons_zero, List.set_cons_succ])
    refine wpTil_take (i := 5) (v := ?_) rfl (by kernel_rfl) (by kernel_rfl) (by kernel_rfl) (fun _ _ _ h => h) (by rfl) (by kernel_rfl) (by kernel_rfl) (Or.inl ⟨by rfl, ?_⟩) hSd ?_
    rotate_left
    focus
      intro w hSw
      obtain ⟨⟨s0, s1⟩, s2⟩ := hSw
      go_simp
      try with_reducible rfl
    (try simp only [List.getElem_toArray, List.getElem_cons_succ, List.getElem_cons_zero, Act.put, List.setIfInBounds_toArray, List.set_cons_zero, List.set_cons_succ])
    refine wpTil_take (i := 9) (v := ?_) rfl (by kernel_rfl) (by kernel_rfl) (by kernel_rfl) (fun _ _ _ h => h) (by rfl) (by kernel_rfl) (by kernel_rfl) (Or.inl ⟨by rfl, ?_⟩) hSd ?_
    rotate_left
    focus
      intro w hSw
      obtain ⟨⟨s0, s1⟩, s2⟩ := hSw
      go_simp
      try with_reducible rfl
    (try simp only [List.getElem_toArray, List.getElem_cons_succ, List.getElem_cons_zero, Act.put, List.setIfInBounds_toArray, List.set_cons_zero, List.set_cons_succ])
    refine wpTil_move (i := 6) (v := ?_) rfl (by kernel_rfl) (by kernel_rfl) (by kernel_rfl) (fun _ _ _ h => h) (by rfl) (Or.inl ⟨by rfl, ?_⟩) (Or.inr hSd) ?_
    rotate_left
    focus
      intro w hSw
      go_simp
      try with_reducible rfl
    (try simp only [List.getElem_toArray, List.getElem_cons_succ, List.getElem_cons_zero, Act.put, List.setIfInBounds_toArray, List.set_cons_zero, List.set_cons_succ])
    refine wpTil_take (i := 7) (v := ?_) rfl (by kernel_rfl) (by kernel_rfl) (by kernel_rfl) (fun _ _ _ h => h) (by rfl) (by kernel_rfl) (by kernel_rfl) (Or.inl ⟨by rfl, ?_⟩) hSd ?_
    rotate_left
    focus
      intro w hSw
      obtain ⟨⟨s0, s1⟩, s2⟩ := hSw
      go_simp
      try with_reducible rfl
    (try simp only [List.getElem_toArray, List.getElem_cons_succ, List.getElem_cons_zero, Act.put, List.setIfInBounds_toArray, List.set_cons_zero, List.set_cons_succ])
    refine wpTil_ready (rs := [10]) (by kernel_rfl) (by simp) ?_
    refine AllTil.cons rfl (fun K hK => ?_) AllTil.nil
    rw [if_pos (by rfl)]
    go_simp
    have hb5 : Below w4.heap.size w4 ((w4.drewN 1).alloc (.cells #[.int .i64 ya] 3)) := (below_drewN (Below.refl _ _) 1).alloc (Nat.le_refl _) _
    have q5 := HS3.out _ hb5
    refine hK.out _ _ q5 ?_
    clear hK K
    (try simp only [List.getElem_toArray, List.getElem_cons_succ, List.getElem_cons_zero, Act.put, List.setIfInBounds_toArray, List.set_cons_zero, List.set_cons_succ])
    refine wpTil_ready (rs := [11]) (by kernel_rfl) (by simp) ?_
    refine AllTil.cons rfl (fun K hK => ?_) AllTil.nil
    have ho4 := (HPV4.out.own b hbn)
    rw [HVB.out, HN0.out] at ho4
    refine step_append_iv (w := (w4.drewN 1).alloc (.cells #[.int .i64 ya] 3)) (by rfl) _ _ (by rfl) w3.heap.size (.slice A0 n0 c0) (selTo es (b : Int) k) n0 HN0.out (by rfl) (ho4.below hb5) ya w4.heap.size (by rfl) (Box.new (w4.drewN 1) _ _) (by omega) (by simp only [World.size_alloc]; show w3.heap.size ≤ w4.heap.size + 1; omega) ?_
    intro g5 cap5 w5 ho5 hg5 hgg5 hgl5
    have HG5 := hide hg5
    have HO5 := hide ho5
    have HGG5 := hide hgg5
    have h45 : w4.heap.size ≤ w5.heap.size := Nat.le_trans (by simp only [World.size_alloc]; show w4.heap.size ≤ w4.heap.size + 1; omega) hg5.size
    have hnb : ∀ kk, kk < w4.heap.size → kk < w3.heap.size ∨ kk = h4 → w5.heap[kk]? = w4.heap[kk]? := fun kk h1 h2 => (hg5.block kk (by simp only [World.size_alloc]; show kk < w4.heap.size + 1; omega) (fun e => by have := Ow.row ho4 kk e.symm; rcases h2 with h2 | h2; (· omega); (· subst h2; exact ho4.apart HFX0.out (by decide) e.symm))).trans (hb5.block kk h1)
    have y0 := (World.cell?_of_block (a := ⟨h4, 0, none⟩) (hnb h4 (by omega) (.inr rfl))).trans e1
    have y1 := (World.cell?_of_block (a := ⟨h4, 1, none⟩) (hnb h4 (by omega) (.inr rfl))).trans e2
    have y2 := (World.cell?_of_block (a := ⟨g, b, none⟩) (hnb g lg4 (.inl lg3))).trans z4
    have y3 := (World.frozen?_of_block (a := ⟨g, b, none⟩) (hnb g lg4 (.inl lg3))).trans ((World.frozen?_of_block (a := ⟨g, b, none⟩) (HB4.out.block g lg)).trans f3)
    refine hK.out _ _ ⟨⟨y0, y1⟩, y2⟩ ?_
    clear hK K ho5 hg5 hgg5
    (try simp only [List.getElem_toArray, List.getElem_cons_succ, List.getElem_cons_zero, Act.put, List.setIfInBounds_toArray, List.set_cons_zero, List.set_cons_succ])
    refine wpTil_move (i := 12) (v := ?_) rfl (by kernel_rfl) (by kernel_rfl) (by kernel_rfl) (fun _ _ _ h => h) (by rfl) (Or.inl ⟨by rfl, ?_⟩) (Or.inr ⟨⟨y0, y1⟩, y2⟩) ?_
    rotate_left
    focus
      intro w hSw
      go_simp
      try with_reducible rfl
    (try simp only [List.getElem_toArray, List.getElem_cons_succ, List.getElem_cons_zero, Act.put, List.setIfInBounds_toArray, List.set_cons_zero, List.set_cons_succ])
    refine wpTil_ready (rs := [13]) (by kernel_rfl) (by simp) ?_
    refine AllTil.last rfl (by rfl) (fun K hK => ?_)
    rw [if_pos (by rfl)]
    go_simp
    refine hK.out _ _ ?_
    clear hK K
    (try simp only [List.getElem_toArray, List.getElem_cons_succ, List.getElem_cons_zero, Act.put, List.setIfInBounds_toArray, List.set_cons_zero, List.set_cons_succ])
    refine wpTil_done (by kernel_rfl) ?_ _
    have HPV5 := hide (HPV4.out.app (b := b) (w4 := (w4.drewN 1).alloc (.cells #[.int .i64 ya] 3)) (z := ya) hbn hb5 (by rw [HVB.out, HN0.out]; exact HG5.out) (v5 := .slice (some ⟨g5, 0, none⟩) (n0 + 1) cap5) HO5.out (fun kk e => by simp [Value.ownBlock] at e; subst e; rcases HGG5.out with h | h; (· rw [HVB.out, HN0.out]; exact .inl h); (· right; rw [h, World.size_alloc]; show w4.heap.size ≤ w4.heap.size + 1; omega)))
    have r4 := HRD.out.trans (Read.of_below (g := g) HB4.out)
    have HR5 := hide (show Read g w3 (w5.setCell ⟨g, b, none⟩ (.slice (some ⟨g5, 0, none⟩) (n0 + 1) cap5)) from Read.set ⟨HG5.out.os.trans (hb5.os.trans r4.os), HG5.out.tape.trans (hb5.tape.trans r4.tape), HG5.out.output.trans (hb5.output.trans r4.output), Nat.le_trans r4.size h45, fun kk h1 h2 => (hnb kk (by omega) (.inl h1)).trans (r4.block kk h1 h2)⟩ (.inr rfl))
    clear hnb
    go_wp2
    go_roundw
    case rel => exact ⟨k + 1, _, by omega, by go_num, hide (HPV5.out.ext fun x hx => by by_cases e : x = b; (· subst e; rw [if_pos rfl]; exact HYES.out _ rfl); (· rw [if_neg e]; exact HNO.out _ (by omega))), HR5⟩
    case measure => simp [intOf]; omega
end Go.Proofs.YteoopilmdlhkhaaDoor
