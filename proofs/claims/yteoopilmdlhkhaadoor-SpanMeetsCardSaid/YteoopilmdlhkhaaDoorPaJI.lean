/- Layer 11, the program: live.begins: the sets of what is live at each block's beginning. Condition: the table of parts reads as listed. -/
import Derived.Test.YteoopilmdlhkhaaDoorPaJH
import Derived.Deep.RegionHeld3
set_option linter.unusedSimpArgs false
set_option linter.unusedVariables false
namespace Go.Proofs.YteoopilmdlhkhaaDoor
open Go.RowKit

def castL (l : List Nat) : List Int := l.map fun (x : Nat) => (x : Int)
theorem castL_snoc (l : List Nat) (b : Nat) : castL (l ++ [b]) = castL l ++ [(b : Int)] := by simp [castL]
theorem castL_len (l : List Nat) : (castL l).length = l.length := by simp [castL]
theorem Ow.formJ {w : World} {base : Nat} {v : Value} {zs : List Int} (h : Ow w base 3 .i64 v zs) (h0 : 0 < zs.length) : ∃ g cap, v = .slice (some ⟨g, 0, none⟩) zs.length cap ∧ base ≤ g ∧ g < w.heap.size ∧ zs.length ≤ cap := by
  unfold Ow at h
  rcases h.2 with ⟨-, e⟩ | ⟨g, cap, cur, rfl, hg, hh, hnc, -⟩
  · omega
  · exact ⟨g, cap, rfl, hg, (Array.getElem?_eq_some_iff.1 hh).1, hnc⟩
theorem Ow.at {w : World} {base g n cap : Nat} {zs : List Int} (h : Ow w base 3 .i64 (.slice (some ⟨g, 0, none⟩) n cap) zs) {j : Nat} {z : Int} (hj : zs[j]? = some z) : w.cell? ⟨g, j, none⟩ = some (.int .i64 z) := by
  have hl : j < zs.length := (List.getElem?_eq_some_iff.1 hj).1
  obtain ⟨A, c, hv, -, -, hs⟩ := h.sl
  cases hv
  obtain ⟨b, o, e, hb, hc⟩ := hs (by omega)
  cases e
  have := hc j hl
  rw [Nat.zero_add] at this
  rw [this]
  simp [List.getD, hj]
theorem lackT_le (σ : Nat → List Nat) (n : Nat) : lackT σ n ≤ n * 4096 := by
  unfold lackT
  induction n with
  | zero => simp
  | succ n ih =>
    rw [List.range_succ, List.map_append, List.sum_append]
    have : lackL (σ n) ≤ 4096 := by
      unfold lackL
      exact Nat.le_trans List.countP_le_length (by simp)
    simp only [List.map_cons, List.map_nil, List.sum_cons, List.sum_nil]
    omega
theorem askL11_get {f : FunV} {n j : Nat} (h : j < n) : (askL11 f n).getD j [] = thrS (codeOf f j) [] := by simp [askL11, List.getD, h]
theorem setL11_get {f : FunV} {n j : Nat} (h : j < n) : (setL11 f n).getD j [] = ofL (setsL11 (codeOf f j)) := by simp [setL11, List.getD, h]
theorem LW.ext {w : World} {g n : Nat} {us : Nat → Value} {σ σ' : Nat → List Nat} {M : Nat → Prop} (h : LW w g n us σ M) (e : ∀ j, j < n → σ j = σ' j) : LW w g n us σ' M := ⟨h.box, fun j hj => e j hj ▸ h.set j hj⟩
theorem belG {w w4 wr : World} {g : Nat} (h : Below w.heap.size w w4) (hr : Read g w4 wr) (hg : w.heap.size ≤ g) : Below w.heap.size w wr := h.trans ⟨hr.os, hr.tape, hr.output, hr.size, fun k hk => hr.block k (by have := h.size; omega) (by omega)⟩
/-- append(l, y) in a plain region: l an own list of ints. -/
theorem wpList_append_iv {w : World} {ops : Array Oper} {rest : List Oper} {o : Oper} {a : Act} {Q : Exit → Act → World → Prop} (hgd : o.guard = none) (s x : Operand)
    (ho : o.op = .call { callee := .builtin .append, args := #[s, x], argTypes := #[26, 26] })
    (base : Nat) (v : Value) (zs : List Int) (n : Nat) (hln : zs.length = n) (hs : a.eval s = v) (hown : Ow w base 3 .i64 v zs) (y : Int) (H : Nat) (hH : w.heap.size = H) (hx : a.eval x = .slice (some ⟨H, 0, none⟩) 1 1)
    (hroom : n < 1000000) (hbase : base ≤ w.heap.size)
    (h : ∀ g cap w', Ow w' base 3 .i64 (.slice (some ⟨g, 0, none⟩) (n + 1) cap) (zs ++ [y]) → (w.alloc (.cells #[.int .i64 y] 3)).grownBy w' v.ownBlock → (v.ownBlock = some g ∨ g = (w.alloc (.cells #[.int .i64 y] 3)).heap.size) → g < w'.heap.size → wpList Tryd.prog ops Q rest (a.put o.dst (.slice (some ⟨g, 0, none⟩) (n + 1) cap)) w') :
    wpList Tryd.prog ops Q (o :: rest) a (w.alloc (.cells #[.int .i64 y] 3)) := by
  subst hln
  subst hH
  obtain ⟨i0, hi0, iz0, iz1, iz2⟩ := info_parts info_i64
  have hb := World.news_of_block (Box.new w #[.int .i64 y] 3)
  exact wpList_append_lies (w.alloc (.cells #[.int .i64 y] 3)) hgd s x _ ho base 3 i0 _ 1 8 (by kernel_rfl) hi0 iz0 iz1 iz2 rfl (by omega) v zs.length (zs.map (Value.int .i64)) hs (World.ownsRow.alloc hown _) ⟨w.heap.size, 0, none⟩ 1 1 [.int .i64 y] hx rfl
    hb (by simp [Value.oneCell']) (by omega) (by simp only [maxLen]; omega) (by omega) (by simp only [World.size_alloc]; omega) _ rfl
    fun g cap w' h1 h2 h3 h4 => h g cap w' (by unfold Ow; rw [List.length_append, List.map_append]; exact h1) h2 h3 h4
theorem prev_in {f : FunV} (hok : FlowOk f) {b : Nat} (hb : b < f.blocks.length) {x : Int} (h : x ∈ prevN f (b : Int)) : ∃ p : Nat, x = (p : Int) ∧ p < f.blocks.length ∧ (b : Int) ∈ nxt f p := by
  unfold prevN at h
  obtain ⟨⟨a, c⟩, h1, rfl⟩ := List.mem_map.1 h
  obtain ⟨h2, h3⟩ := List.mem_filter.1 h1
  have h4 := edges_in hok h2
  simp only at h3 h4
  have e : c = (b : Int) := by simpa using h3
  subst e
  refine ⟨a.toNat, by simp; omega, by omega, ?_⟩
  have h5 : ((a.toNat : Nat) : Int) = a := by omega
  have := (mem_edgesN (f := f) (a := a.toNat) (v := (b : Int)) (by omega)).1 (by rw [h5]; exact h2)
  exact this
section
variable {w4 wi w7 w8 w10 : World} {gl ls m2 cd g10 cap10 p : Nat} {Ad : Option Addr} {us : Nat → Value} {σ : Nat → List Nat} {u8 : Value} {t dl2 : List Nat} {ob : Obj}
theorem round_own (hrd : Read gl w4 wi) (hg4 : gl < w4.heap.size) (how : Ow wi w4.heap.size 3 .i64 (.slice Ad m2 cd) (castL dl2)) (h8 : Below wi.heap.size wi w8) : Ow (w8.setCell ⟨gl, p, none⟩ u8) w4.heap.size 3 .i64 (.slice Ad m2 cd) (castL dl2) :=
  owKept how fun k hk => by
    obtain ⟨h1, c, fz, h2⟩ := Ow.row how k hk
    have hl := (Array.getElem?_eq_some_iff.1 h2).1
    exact (heap_setCell_other w8 ⟨gl, p, none⟩ k u8 (by show k ≠ gl; omega)).trans (h8.block k hl)
theorem round_due (hrd : Read gl w4 wi) (hg4 : gl < w4.heap.size) (how : Ow wi w4.heap.size 3 .i64 (.slice Ad m2 cd) (castL dl2)) (hlw : LW wi gl ls us σ (fun b => (Value.slice Ad m2 cd).ownBlock = some b)) (h8 : Below wi.heap.size wi w8) (hw : WN w7 w8 u8 t) (h7 : wi.heap.size ≤ w7.heap.size) (hp : p < ls)
    (hgr : ((w8.setCell ⟨gl, p, none⟩ u8).alloc ob).grownBy w10 (Value.slice Ad m2 cd).ownBlock) (hor : (Value.slice Ad m2 cd).ownBlock = some g10 ∨ g10 = ((w8.setCell ⟨gl, p, none⟩ u8).alloc ob).heap.size) :
    LW w10 gl ls (fun x => if x = p then u8 else us x) (fun x => if x = p then t else σ x) (fun b => (Value.slice (some ⟨g10, 0, none⟩) (m2 + 1) cap10).ownBlock = some b) ∧ Read gl w4 w10 := by
  have hrow : ∀ k, (Value.slice Ad m2 cd).ownBlock = some k → w4.heap.size ≤ k ∧ k < wi.heap.size := fun k hk => by
    obtain ⟨h1, c, fz, h2⟩ := Ow.row how k hk
    exact ⟨h1, (Array.getElem?_eq_some_iff.1 h2).1⟩
  have hzi := hrd.size
  have hz8 := h8.size
  have hz10 := hgr.size
  rw [World.size_alloc, World.size_setCell] at hz10
  have hlw8 : LW w8 gl ls us σ (fun b => (Value.slice Ad m2 cd).ownBlock = some b) := hlw.below h8
  have hst := hlw8.store hp (hw.setM (M := fun b => b = gl ∨ (Value.slice Ad m2 cd).ownBlock = some b) fun b hb => by
    rcases hb with rfl | hb
    · omega
    · have := (hrow b hb).2; omega)
  have hbl : ∀ k, k < w8.heap.size → (Value.slice Ad m2 cd).ownBlock ≠ some k → w10.heap[k]? = (w8.setCell ⟨gl, p, none⟩ u8).heap[k]? := fun k hk hn =>
    (hgr.block k (by rw [World.size_alloc, World.size_setCell]; omega) (fun e => hn e.symm)).trans (Below.heap_alloc _ _ _ (by rw [World.size_setCell]; exact hk))
  refine ⟨hst.keep (by rw [World.size_setCell]; omega) (hbl gl (by omega) (fun e => by have := (hrow gl e).1; omega)) (fun b hb hn => hbl b (by rw [World.size_setCell] at hb; exact hb) (fun e => hn (.inr e))) (fun b hb e => ?_), ⟨?_, ?_, ?_, by omega, fun k hk hkg => ?_⟩⟩
  · rcases hor with h | h
    · exact h.trans e
    · have e' : g10 = b := by simpa [Value.ownBlock] using e
      rw [World.size_setCell] at hb
      rw [World.size_alloc, World.size_setCell] at h
      omega
  · exact hgr.os.trans (h8.os.trans hrd.os)
  · exact hgr.tape.trans (h8.tape.trans hrd.tape)
  · exact hgr.output.trans (h8.output.trans hrd.output)
  · exact (hbl k (by omega) (fun e => by have := (hrow k e).1; omega)).trans ((heap_setCell_other w8 ⟨gl, p, none⟩ k u8 hkg).trans ((h8.block k (by omega)).trans (hrd.block k hk hkg)))
theorem Ow.belowL {w w' : World} {base : Nat} {v : Value} {zs : List Int} (h : Ow w base 3 .i64 v zs) (hb : Below w.heap.size w w') : Ow w' base 3 .i64 v zs :=
  owKept h fun k hk => by
    obtain ⟨h1, c, fz, h2⟩ := Ow.row h k hk
    exact hb.block k (Array.getElem?_eq_some_iff.1 h2).1
end
set_option maxHeartbeats 8000000 in
set_option maxRecDepth 100000 in
theorem begins_any (vk vb vs : Value) (f : FunV) (w : World) (B : Nat) (hB : B ≤ w.heap.size) (hi : FunI w (· < B) vk vb vs f) (hT : TabP w) (hok : FlowOk f) (hone : 1 ≤ f.blocks.length) (hne : ∀ c, c < f.blocks.length → codeOf f c ≠ []) (hfew : ∀ l ∈ f.blocks, ∀ x ∈ l, x.args.length ≤ 1099511627000) :
    Calls Tryd.prog 80 #[.agg #[vk, vb, .int .i64 f.params, .int .i64 f.result, vs]] w fun e w' => ∃ (g cap : Nat) (us : Nat → Value) (σ : Nat → List Nat), e = .returned (.slice (some ⟨g, 0, none⟩) f.blocks.length cap) ∧ f.blocks.length ≤ cap ∧ cap ≤ maxLen ∧ LW w' g f.blocks.length us σ (fun _ => False) ∧ (∀ b, b < f.blocks.length → LvS f b (σ b)) ∧ w.heap.size ≤ g ∧ Below w.heap.size w w' := by
  have HAK := hide (fun (W : World) (hW : Below w.heap.size w W) => asks_any vk vb vs f W B (by have := hW.size; omega) (hi.keep (up hW hB) (fun _ h => h)) (hT.below hW hT.1) hok.1 hok.2.1 hfew)
  have HSK := hide (fun (W : World) (hW : Below w.heap.size w W) => lsets_any vk vb vs f W B (by have := hW.size; omega) (hi.keep (up hW hB) (fun _ h => h)) (hT.below hW hT.1) hok.1 hok.2.1)
  have HPK := hide (fun (W : World) (hW : Below w.heap.size w W) => prevs_any vk vb vs f W B (by have := hW.size; omega) (hi.keep (up hW hB) (fun _ h => h)) hok)
  have HLI0 := hide (LI.start hne)
  have HPI := hide (fun (b : Nat) (hb : b < f.blocks.length) (x : Int) (h : x ∈ prevN f (b : Int)) => prev_in hok hb h)
  have HPM := hide (fun (b : Nat) (p : Nat) (hp : p < f.blocks.length) (h : (b : Int) ∈ nxt f p) => (mem_prevN (f := f) (a := p) (z := (b : Int)) hp).2 h)
  have HAG := hide (fun j (h : j < f.blocks.length) => askL11_get (f := f) h)
  have HSG := hide (fun j (h : j < f.blocks.length) => setL11_get (f := f) h)
  have HAL := hide (show (askL11 f f.blocks.length).length = f.blocks.length by simp [askL11])
  have HSL := hide (show (setL11 f f.blocks.length).length = f.blocks.length by simp [setL11])
  have hls := hok.1
  have HPL := hide (fun (b : Nat) => (show (prevN f (b : Int)).length ≤ 80 from Nat.le_trans (by unfold prevN; rw [List.length_map]; exact List.length_filter_le _ _) (edgesN_len hok)))
  obtain ⟨Ak, ck, rfl, hck, hmk⟩ := hi.1.open'
  obtain ⟨Ab, cb, rfl, hcb, hmb⟩ := hi.2.1.open'
  obtain ⟨As, cs, rfl, hcs, hms⟩ := hi.2.2.1.open'
  obtain ⟨i0, hi0, iz0, iz1, iz2⟩ := info_parts info_i64
  have HI0 := hide hi0
  obtain ⟨ls, hls2⟩ : ∃ ls, f.blocks.length = ls := ⟨_, rfl⟩
  have HLS := hide hls2
  rw [hls2] at HAK HSK HPK HPI HPM HAG HSG HAL HSL HLI0 hls hone hcs ⊢
  clear hi hT hB hne hfew hls2 hi0 hok
  generalize f.kinds.length = lk, f.base.length = lb, f.params = fp, f.result = fr at *
  go_enter Tryd.func80, Tryd.ntmps80
  go_upto_region 1 with (fail)
  obtain ⟨w1, hw1⟩ : ∃ w1, w1 = w.alloc (.cells #[.slice Ak lk ck, .slice Ab lb cb, .int .i64 fp, .int .i64 fr, .slice As ls cs] 34) := ⟨_, rfl⟩
  obtain ⟨h5, hh5⟩ : ∃ h5, w.heap.size = h5 := ⟨_, rfl⟩
  have HX0 := hide (show Box w1 (h5) #[.slice Ak lk ck, .slice Ab lb cb, .int .i64 fp, .int .i64 fr, .slice As ls cs] 34 by rw [hw1, ← hh5]; have t := Box.new w #[.slice Ak lk ck, .slice Ab lb cb, .int .i64 fp, .int .i64 fr, .slice As ls cs] 34; (try simp only [World.size_alloc] at t); exact t)
  have HB1 := hide (show Below w.heap.size w w1 by rw [hw1]; exact ((Below.refl _ _).alloc (Nat.le_refl _) _))
  have w1s := HB1.out.size
  have w1z := hide (show w1.heap.size = h5 + 1 by rw [hw1, ← hh5]; simp only [World.size_alloc])
  have HK0 := hide (fun (W : World) (hW : Below w1.heap.size w1 W) => (And.intro ((HX0.out.below hW).cell 0 (v := .slice Ak lk ck) rfl).1 (And.intro ((HX0.out.below hW).cell 1 (v := .slice Ab lb cb) rfl).1 (And.intro ((HX0.out.below hW).cell 2 (v := .int .i64 fp) rfl).1 (And.intro ((HX0.out.below hW).cell 3 (v := .int .i64 fr) rfl).1 ((HX0.out.below hW).cell 4 (v := .slice As ls cs) rfl).1)))))
  have lHX0 := HX0.out.lt
  have h5g : w.heap.size ≤ h5 := by omega
  rw [← hw1, hh5]
  clear hw1 hh5
  obtain ⟨c0, c1, c2, c3, c4⟩ := HK0.out w1 (Below.refl _ _)
  go_upto_region 2 with (fail)
  go_region_held3 (fun w' => w'.cell? ⟨h5, 0, none⟩ = some (.slice Ak lk ck) ∧ w'.cell? ⟨h5, 1, none⟩ = some (.slice Ab lb cb) ∧ w'.cell? ⟨h5, 2, none⟩ = some (.int .i64 fp) ∧ w'.cell? ⟨h5, 3, none⟩ = some (.int .i64 fr) ∧ w'.cell? ⟨h5, 4, none⟩ = some (.slice As ls cs)) (first | go_keep | (exact q4) | (exact q3) | (exact q2))
    (first
      | (go_at_call 85; refine (HPK.out w3 (HB1.out.trans (HC3.out.mono HB1.out.size))).mono ?_; rintro e w4 ⟨gp, bp, vp, rfl, hpv, hgp, hb⟩; have hc := HC3.out.trans (hb.mono HC3.out.size); have q4 := HK0.out w4 hc; have HC4 := hide hc; have HPV := hide hpv; have HGP := hide hgp; have HLA4 := hide (HLA3.out.below hb); have HLS4 := hide (HLS3.out.below hb); clear hb hc hpv hgp)
      | (go_at_call 84; refine (HSK.out w2 (HB1.out.trans (HC2.out.mono HB1.out.size))).mono ?_; rintro e w3 ⟨v3, us3, rfl, haw, hb⟩; obtain ⟨g3, cap3, rfl, hg3, hl3, hn3, hm3, hlw⟩ := LW.of haw (n := ls) (by rw [haw.len]; exact HSL.out) hone (M := fun b => b = gl) (fun b e => by have := HLA2.out.lt; omega); have hc := HC2.out.trans (hb.mono HC2.out.size); have q3 := HK0.out w3 hc; have HC3 := hide hc; have HLS3 := hide hlw; have HG3 := hide hg3; have HN3 := hide hn3; have HLA3 := hide (HLA2.out.below hb); clear hb hc haw hlw hg3 hl3 hn3 hm3)
      | (go_at_call 83; refine (HAK.out (w1.drewN 1) (below_drewN HB1.out 1)).mono ?_; rintro e w2 ⟨v2, us2, rfl, haw, hb⟩; obtain ⟨gl, capl, rfl, hgl, hll, hnl, hml, hlw⟩ := LW.of haw (n := ls) (by rw [haw.len]; exact HAL.out) hone (M := fun _ => False) (fun _ h => h.elim); have hc : Below w1.heap.size w1 w2 := ⟨hb.os, hb.tape, hb.output, hb.size, hb.block⟩; have q2 := HK0.out w2 hc; have HC2 := hide hc; have HLA2 := hide hlw; have HGL := hide (show w1.heap.size ≤ gl from hgl); have HNL := hide (And.intro hnl hml); clear hb hc haw hlw hgl hll hnl hml))
  clear c0 c1 c2 c3 c4 q2 q3 q4 HAK HSK HPK
  have HLA5 := hide (HLA4.out.ext (σ' := fun j => thrS (codeOf f j) []) fun j hj => HAG.out j hj)
  have HLS5 := hide (HLS4.out.ext (σ' := fun j => ofL (setsL11 (codeOf f j))) fun j hj => HSG.out j hj)
  have HW4 := hide (HB1.out.trans (HC4.out.mono HB1.out.size))
  have lgl := HLA4.out.lt
  have lg3 := HLS4.out.lt
  have hgl3 : gl < g3 := by have := HG3.out; have := HLA2.out.lt; omega
  have hglp : gl < gp := by have := HGP.out; have := HC3.out.size; have := HLA3.out.lt; omega
  have hglw : w.heap.size ≤ gl := by have := HGL.out; have := HB1.out.size; omega
  clear HLA2 HLA3 HLA4 HLS3 HLS4 HAG HSG HAL HSL HC2 HC3 HGP HG3
  obtain ⟨c0, c1, c2, c3, c4⟩ := HK0.out w4 HC4.out
  generalize g3 = gs at *
  go_wp2
  clear c0 c1 c2 c3 c4
  go_loopw [3, 21] (fun v i wr => ∃ k : Nat, k ≤ ls ∧ i = .int .i64 k ∧ Hid (Ow wr w4.heap.size 3 .i64 v (castL (List.range k))) ∧ Below w4.heap.size w4 wr) (fun _ i _ => ls - (intOf i).toNat)
  case atStart => exact ⟨0, Nat.zero_le _, rfl, hide (Ow.nil _ _ _ _), Below.refl _ _⟩
  case round =>
    obtain ⟨k, hk, rfl, HOW, hb⟩ := hrel
    obtain ⟨wo, rfl⟩ : ∃ wo, wo = wr := ⟨_, rfl⟩
    have HC := hide hb
    have lwo := hb.size
    clear hb
    obtain ⟨Av, cv, hv, hnv, hcv, -⟩ := HOW.out.sl
    rw [castL_len, List.length_range] at hv hnv
    subst hv
    by_cases hlt : k < ls
    case pos =>
      have HSU := hide (show castL (List.range (k + 1)) = castL (List.range k) ++ [(k : Int)] by rw [List.range_succ, castL_snoc])
      go_wp2_with (at_builtin; refine wpList_append_one wo (by rfl) _ _ _ (by rfl) w4.heap.size 3 .i64 i0 _ 8 Tryd.underlying26 HI0.out iz0 iz1 iz2 rfl (by omega) (.slice Av k cv) (castL (List.range k)) (by rfl) HOW.out (k : Int) (by rfl) (by rw [castL_len, List.length_range]; omega) (by omega) ?_; intro v11 w11 ho11 hb11; have HO11 := hide ho11; have HD11 := hide (HC.out.trans hb11); clear ho11 hb11)
      go_roundw
      case rel => exact ⟨k + 1, by omega, by go_num, by rw [HSU.out]; exact HO11, HD11.out⟩
      case measure => simp [intOf]; omega
    obtain rfl : ls = k := by omega
    have hnl : ¬ ((ls : Int) < (ls : Int)) := by omega
    have HLAo := hide (HLA5.out.keep (M' := fun b => (Value.slice Av ls cv).ownBlock = some b) HC.out.size (HC.out.block gl lgl) (fun b hb _ => HC.out.block b hb) (fun b hb e => by have := (Ow.row HOW.out b e).1; omega))
    have HLL := hide (lackT_le (fun j => thrS (codeOf f j) []) ls)
    have hlk := HLL.out
    go_wp2
    go_loopg [3] (2 * lackT (fun j => thrS (codeOf f j) []) ls + ls) (fun K v wr => ∃ (dl : List Nat) (us : Nat → Value) (σ : Nat → List Nat), K = 2 * lackT σ ls + dl.length ∧ K ≤ 400000 ∧ Hid (Ow wr w4.heap.size 3 .i64 v (castL dl)) ∧ Hid (LW wr gl ls us σ (fun b => v.ownBlock = some b)) ∧ Hid (LI f σ dl) ∧ Hid (∀ d ∈ dl, d < ls) ∧ Hid (Read gl w4 wr))
    case atStart => exact ⟨List.range ls, _, _, by rw [List.length_range], by omega, HOW, HLAo, HLI0, hide (fun d hd => List.mem_range.1 hd), hide (Read.of_below HC.out)⟩
    case round =>
      obtain ⟨dl, us, σ, hKe, hK4, HOD, HLW, HLI, HDL, HRD⟩ := hrel
      obtain ⟨wq, rfl⟩ : ∃ wq, wq = wr := ⟨_, rfl⟩
      have lwq := HRD.out.size
      clear HLAo HOW HLI0 hlk
      rcases List.eq_nil_or_concat dl with rfl | ⟨dl', b, hdl⟩
      · obtain ⟨Aq, cq, hvq, -, -, -⟩ := HOD.out.sl
        simp only [castL, List.map_nil, List.length_nil] at hvq
        subst hvq
        have HF1 := hide (HLW.out.keep (M' := fun _ => False) (Nat.le_refl _) rfl (fun _ _ _ => rfl) (fun _ _ h => h.elim))
        have HF2 := hide (fun b (hb : b < ls) => HLI.out.done (b := b) (by rw [HLS.out]; exact hb))
        have HF3 := hide (belG HW4.out HRD.out hglw)
        go_wp2
        go_ret
        first | exact ⟨gl, capl, rfl, HNL.out.1, HNL.out.2, ⟨us, σ, HF1.out, HF2.out⟩, hglw, HF3.out⟩ | exact ⟨gl, capl, us, σ, rfl, HNL.out.1, HNL.out.2, HF1.out, HF2.out, hglw, HF3.out⟩ | trace_state
      have hdl2 : dl = dl' ++ [b] := by rw [hdl]; simp
      subst hdl2
      clear hdl
      obtain ⟨gd, capd, hvd, hgd, hgdl, hgdc⟩ := HOD.out.formJ (by rw [castL_len]; simp)
      obtain ⟨m, hm⟩ : ∃ m, dl'.length = m := ⟨_, rfl⟩
      have HM := hide hm
      have hlen : (castL (dl' ++ [b])).length = m + 1 := by rw [castL_len]; simp [hm]
      rw [hlen] at hvd hgdc
      subst hvd
      have hmc : m ≤ capd := by omega
      have hbl : b < ls := HDL.out b (by simp)
      have hdc : wq.cell? ⟨gd, m, none⟩ = some (.int .i64 (b : Int)) := HOD.out.at (by rw [castL_snoc, List.getElem?_append_right (by rw [castL_len]; omega), castL_len, hm]; simp)
      have HOP := hide (show Ow wq w4.heap.size 3 .i64 (.slice (some ⟨gd, 0, none⟩) m capd) (castL dl') from Ow.pop (z := (b : Int)) (by have := HOD.out; rw [castL_snoc] at this; exact this) (by rw [castL_len]; exact hm))
      have HLK := hide (LI.pop HLI.out)
      have HPQ := hide (HPV.out.read HRD.out hglp)
      obtain ⟨Ap, cp, hvp, hpc, hpf⟩ := HPQ.out.cell hbl
      obtain ⟨np, hnp⟩ : ∃ np, (prevN f (b : Int)).length = np := ⟨_, rfl⟩
      have HNP := hide hnp
      rw [hnp] at hvp hpc
      have HVP := hide hvp
      have lgp := HPQ.out.box.lt
      obtain ⟨K, hKK⟩ : ∃ K, 2 * lackT σ ls + (m + 1) = K := ⟨_, rfl⟩
      have HKK := hide hKK
      have HK4 := hide hK4
      have HKE := hide (hKe.trans (show 2 * lackT σ ls + (dl' ++ [b]).length = K by rw [← hKK]; simp [hm]))
      clear hKK
      have hb0 : (0 : Int) ≤ (b : Int) := by omega
      have hb1 : (b : Int) < (ls : Int) := by omega
      have hm0 : (0 : Int) < (m : Int) + 1 := by omega
      have hm4 : m ≤ 400000 := by have := HKE.out; have := HKK.out; omega
      have hmI0 : (0 : Int) ≤ (m : Int) := by omega
      have hmI1 : (m : Int) < (m : Int) + 1 := by omega
      clear hKe hvp hpf hm HOD hlen hnp
      go_wp2
      go_loopw [3, 48] (fun v i wr => ∃ (k2 : Nat) (dl2 : List Nat) (us2 : Nat → Value) (σ2 : Nat → List Nat), k2 ≤ np ∧ i = .int .i64 k2 ∧ 2 * lackT σ2 ls + dl2.length + 1 ≤ K ∧ Hid (Ow wr w4.heap.size 3 .i64 v (castL dl2)) ∧ Hid (LW wr gl ls us2 σ2 (fun b => v.ownBlock = some b)) ∧ Hid (LIk f σ2 dl2 b k2) ∧ Hid (∀ d ∈ dl2, d < ls) ∧ Hid (Read gl w4 wr)) (fun _ i _ => np - (intOf i).toNat)
      case atStart => exact ⟨0, dl', us, σ, Nat.zero_le _, rfl, by have := HM.out; have := HKK.out; omega, HOP, hide (HLW.out.keep (Nat.le_refl _) rfl (fun _ _ _ => rfl) (fun _ _ h => h)), HLK, hide (fun d hd => HDL.out d (by simp [hd])), HRD⟩
      case round =>
        obtain ⟨k2, dl2, us2, σ2, hk2, rfl, hlk2, HOW2, HLW2, HLK2, HDL2, HRD2⟩ := hrel
        obtain ⟨wi, rfl⟩ : ∃ wi, wi = wr := ⟨_, rfl⟩
        have lwi := HRD2.out.size
        obtain ⟨m2, hm2⟩ : ∃ m2, dl2.length = m2 := ⟨_, rfl⟩
        have HM2 := hide (show (castL dl2).length = m2 by rw [castL_len]; exact hm2)
        have HM3 := hide hm2
        obtain ⟨Ad, cd, hvd2, hnd2, hcd2, -⟩ := HOW2.out.sl
        rw [castL_len, hm2] at hvd2 hnd2
        rw [hm2] at hlk2
        subst hvd2
        have hm24 : m2 ≤ 400000 := by have := HKE.out; omega
        have HKL := hide hlk2
        clear hm2 hlk2 hK4 HLW HLK HOP HDL HPQ
        by_cases hlt2 : k2 < np
        case neg =>
          obtain rfl : np = k2 := by omega
          have hnl2 : ¬ ((np : Int) < (np : Int)) := by omega
          have HFIN := hide (HLK2.out.all (by have := HNP.out; omega) (fun p hp h => HPM.out b p (by rw [← HLS.out]; exact hp) h))
          go_wp2
          go_roundg (2 * lackT σ2 ls + m2)
          case rel => exact ⟨dl2, us2, σ2, by rw [HM3.out], by have := HKL.out; have := HKE.out; have := HK4.out; omega, HOW2, HLW2, HFIN, HDL2, HRD2⟩
          case measure => have := HKL.out; have := HKE.out; omega
        obtain ⟨x, hx⟩ : ∃ x, (prevN f (b : Int))[k2]? = some x := ⟨_, List.getElem?_eq_getElem (by have := HNP.out; omega)⟩
        obtain ⟨p, rfl, hpl, hpe⟩ := HPI.out b hbl x (List.mem_of_getElem? hx)
        have HX := hide hx
        have HPE := hide hpe
        have HLT2 := hide hlt2
        have hnp80 : np ≤ 80 := by have := HPL.out b; rw [HNP.out] at this; exact this
        have HPP := hide (HPV.out.read HRD2.out hglp)
        obtain ⟨Aq, cq, hvq, hqc, hqm, hqs⟩ := (HPP.out.own b hbl).sl
        have hvq2 := HVP.out.symm.trans hvq
        injection hvq2 with e1 e2 e3
        subst e1
        obtain ⟨g7, o7, e7, hg7, hc7⟩ := hqs (by have := HNP.out; omega)
        have q7 : wi.cell? ⟨g7, o7 + k2, none⟩ = some (.int .i64 (p : Int)) := (hc7 k2 (by have := HNP.out; omega)).trans (by rw [show (prevN f (b : Int)).getD k2 0 = (p : Int) by simp [List.getD, HX.out]])
        subst e7
        have HFB := hide (show b < f.blocks.length by rw [HLS.out]; exact hbl)
        have HFP := hide (show p < f.blocks.length by rw [HLS.out]; exact hpl)
        have HOKb := hide (HLK2.out.ok b HFB.out)
        have HOKp := hide (HLK2.out.ok p HFP.out)
        obtain ⟨Al, cl, -, qcl, -, hsl⟩ := HLW2.out.cell hbl
        obtain ⟨Ap2, cp2, -, qcp, -, hsp2⟩ := HLW2.out.cell hpl
        have HS6 := hide (HLS5.out.keep (w' := wi) (M' := fun b => b = gl) HRD2.out.size (HRD2.out.block gs lg3 (by omega)) (fun b hb hn => HRD2.out.block b hb (fun e => hn (.inr e))) (fun b hb h => h))
        obtain ⟨Ac, cc, -, qcc, -, hsc⟩ := HS6.out.cell hpl
        try simp only at qcc hsc
        obtain ⟨sp, hsp⟩ : ∃ sp, ofL (setsL11 (codeOf f p)) = sp := ⟨_, rfl⟩
        have HOKs := hide (show SetOk sp by rw [← hsp]; exact ofL_ok _)
        obtain ⟨mo, hmo⟩ : ∃ mo, lessL (σ2 b) sp = mo := ⟨_, rfl⟩
        have HMOK := hide (show SetOk mo by rw [← hmo]; exact lessL_ok HOKb.out HOKs.out)
        have HMH := hide (fun (v : Nat) => show hasB mo (v : Int) = true ↔ (hasB (σ2 b) (v : Int) = true ∧ ¬ setB (codeOf f p) v) by rw [← hmo, ← hsp]; exact more_has HOKb.out (codeOf f p) v)
        rw [hsp] at qcc hsc
        obtain ⟨nb, hnb⟩ : ∃ nb, (σ2 b).length = nb := ⟨_, rfl⟩
        obtain ⟨nq, hnq⟩ : ∃ nq, (σ2 p).length = nq := ⟨_, rfl⟩
        obtain ⟨nc, hnc⟩ : ∃ nc, sp.length = nc := ⟨_, rfl⟩
        obtain ⟨no, hno⟩ : ∃ no, mo.length = no := ⟨_, rfl⟩
        obtain ⟨nj, hnj⟩ : ∃ nj, (joinL [σ2 p, mo]).length = nj := ⟨_, rfl⟩
        rw [hnb] at qcl hsl
        rw [hnq] at qcp hsp2
        rw [hnc] at qcc hsc
        have HSL2 := hide hsl
        have HSP2 := hide hsp2
        have HSC := hide hsc
        have HLE := hide (fun (W : World) (h1 : SetV W (.slice Al nb cl) (σ2 b)) (h2 : SetV W (.slice Ac nc cc) sp) => (show Calls Tryd.prog 86 #[.slice Al nb cl, .slice Ac nc cc] W fun e w' => ∃ A c, e = .returned (.slice A no c) ∧ SetV w' (.slice A no c) mo ∧ Below W.heap.size W w' by have t := lessV h1 h2 HOKb.out HOKs.out; rw [hmo, hno] at t; exact t))
        have HHO := hide (fun (W : World) (A : Option Addr) (c : Nat) (h1 : SetV W (.slice Ap2 nq cp2) (σ2 p)) (h2 : SetV W (.slice A no c) mo) => holdsV h1 h2 HOKp.out HMOK.out)
        have HJO := hide (fun (W : World) (A : Option Addr) (c : Nat) (h1 : SetV W (.slice Ap2 nq cp2) (σ2 p)) (h2 : SetV W (.slice A no c) mo) => (show Calls Tryd.prog 58 #[.slice (some ⟨W.heap.size, 0, none⟩) 2 2] (W.alloc (.cells #[.slice Ap2 nq cp2, .slice A no c] 39)) fun e w' => ∃ A' c', e = .returned (.slice A' nj c') ∧ WN W w' (.slice A' nj c') (joinL [σ2 p, mo]) ∧ Below W.heap.size W w' by have t := join2V h1 h2 HOKp.out HMOK.out; rw [hnj] at t; exact t))
        have HKC := hide (fun (W : World) (hW : Below wi.heap.size wi W) => And.intro ((World.cell?_of_block (a := ⟨gl, b, none⟩) (hW.block gl (by omega))).trans qcl) (And.intro ((World.cell?_of_block (a := ⟨gs, p, none⟩) (hW.block gs (by omega))).trans qcc) ((World.cell?_of_block (a := ⟨gl, p, none⟩) (hW.block gl (by omega))).trans qcp)))
        have HKF := hide (fun (W : World) (hW : Below wi.heap.size wi W) => (show W.frozen? ⟨gl, p, none⟩ = false by obtain ⟨_, _, _, _, t, _⟩ := (HLW2.out.below hW).cell hpl; exact t))
        have hp0 : (0 : Int) ≤ (p : Int) := by omega
        have hp1 : (p : Int) < (ls : Int) := by omega
        clear hsl hsp2 hsc hx hpe hqs hc7 hvq hqc hqm e2 e3 hsp hmo hnb hnq hnc hno hnj
        go_upto_region 14 with (fail)
        go_region_held3 (fun w' => w'.cell? ⟨gl, b, none⟩ = some (.slice Al nb cl) ∧ w'.cell? ⟨gs, p, none⟩ = some (.slice Ac nc cc) ∧ w'.cell? ⟨gl, p, none⟩ = some (.slice Ap2 nq cp2)) (first | go_keep | (exact r6))
          (first | (go_at_call 86; refine (HLE.out (wi.drewN 1) (HSL2.out.below (below_drewN (Below.refl _ _) 1)) (HSC.out.below (below_drewN (Below.refl _ _) 1))).mono ?_; rintro e w6 ⟨A6, c6, rfl, hs6, hb6⟩; have hc6 : Below wi.heap.size wi w6 := ⟨hb6.os, hb6.tape, hb6.output, hb6.size, hb6.block⟩; have r6 := HKC.out w6 hc6; have HC6 := hide hc6; have HS6m := hide hs6; clear hb6 hc6 hs6))
        clear qcl qcc qcp q7
        obtain ⟨qcl, qcc, qcp⟩ := HKC.out w6 HC6.out
        have l6 := HC6.out.size
        have HSP6 := hide (HSP2.out.below HC6.out)
        clear qcl qcc
        by_cases hz : (lessL mo (σ2 p)).length = 0
        case pos =>
          have HHY := hide (show Calls Tryd.prog 87 #[.slice Ap2 nq cp2, .slice A6 no c6] w6 fun e w' => e = .returned (.bool true) ∧ Below w6.heap.size w6 w' by have t := HHO.out w6 A6 c6 HSP6.out HS6m.out; rw [decide_eq_true hz] at t; exact t)
          have HSK := hide (HLK2.out.skip HX.out fun v hv hs => (less_none HOKp.out HMOK.out).1 hz v ((HMH.out v).2 ⟨hv, hs⟩))
          clear hz
          go_wp2_with (go_at_call 87; refine HHY.out.mono ?_; rintro e w7 ⟨rfl, hb7⟩; have HC7 := hide (HC6.out.trans (hb7.mono HC6.out.size)); clear hb7)
          go_roundw
          case rel => exact ⟨k2 + 1, dl2, us2, σ2, (by have := HLT2.out; omega), by go_num, by rw [HM3.out]; exact HKL.out, hide (HOW2.out.belowL HC7.out), hide (HLW2.out.below HC7.out), HSK, HDL2, hide (HRD2.out.trans (Read.of_below HC7.out))⟩
          case measure => have := HLT2.out; simp [intOf]; omega
        have HHN := hide (show Calls Tryd.prog 87 #[.slice Ap2 nq cp2, .slice A6 no c6] w6 fun e w' => e = .returned (.bool false) ∧ Below w6.heap.size w6 w' by have t := HHO.out w6 A6 c6 HSP6.out HS6m.out; rw [decide_eq_false hz] at t; exact t)
        obtain ⟨vv, hv1, hv2, hv3⟩ := less_some HOKp.out HMOK.out hz
        have HGW := hide (HLK2.out.grow HX.out HFP.out HFB.out HPE.out (t := joinL [σ2 p, mo]) (neat_tidy _) (join_ok HOKp.out HMOK.out) (fun v => (join_has (σ2 p) mo v).trans (or_congr Iff.rfl (HMH.out v))))
        have HLT := hide (lackT_lt (σ := σ2) (n := ls) hpl (lackL_lt (fun v h => (join_has (σ2 p) mo v).2 (.inl h)) hv1 ((join_has (σ2 p) mo vv).2 (.inr hv2)) hv3))
        clear hz hv1 hv2 hv3
        go_wp2_with (first
          | (at_builtin; refine wpList_append_iv (w := w8.setCell ⟨gl, p, none⟩ (.slice A8 nj c8)) (by rfl) _ _ (by rfl) w4.heap.size (.slice Ad m2 cd) (castL dl2) m2 HM2.out (by rfl) (round_own HRD2.out lgl HOW2.out HC8.out) (p : Int) w8.heap.size (World.size_setCell _ _ _) (by rfl) (by omega) (by rw [World.size_setCell]; omega) ?_; intro g10 cap10 w10 ho10 hgr10 hor10 hlt10; have hdue := round_due (cap10 := cap10) HRD2.out lgl HOW2.out HLW2.out HC8.out HW8.out HC7.out.size hpl hgr10 hor10; have HDU := hide hdue; have HO10 := hide ho10; clear hgr10 hor10 ho10 hdue)
          | (go_at_call 58; refine (HJO.out w7 A6 c6 HSP7.out HS7m.out).mono ?_; rintro e w8 ⟨A8, c8, rfl, hw8, hb8⟩; have hc8 : Below wi.heap.size wi w8 := HC7.out.trans (hb8.mono HC7.out.size); have s1 := (HKC.out w8 hc8).2.2; have s2 := HKF.out w8 hc8; have HW8 := hide hw8; have HC8 := hide hc8; have l8 := hc8.size; clear hb8 hc8 hw8)
          | (go_at_call 87; refine HHN.out.mono ?_; rintro e w7 ⟨rfl, hb7⟩; have hc7 : Below wi.heap.size wi w7 := HC6.out.trans (hb7.mono HC6.out.size); have r3 := (HKC.out w7 hc7).2.2; have HSP7 := hide (HSP2.out.below hc7); have HS7m := hide (HS6m.out.below hb7); have HC7 := hide hc7; have l7 := hc7.size; clear hb7 hc7))
        go_roundw
        case rel => exact ⟨k2 + 1, dl2 ++ [p], fun x => if x = p then .slice A8 nj c8 else us2 x, fun x => if x = p then joinL [σ2 p, mo] else σ2 x, (by have := HLT2.out; omega), by go_num, by have := HLT.out; have := HKL.out; rw [List.length_append, HM3.out]; simp only [List.length_cons, List.length_nil]; omega, hide (by rw [castL_snoc]; exact HO10.out), hide HDU.out.1, HGW, hide (fun d hd => by
          rcases List.mem_append.1 hd with h | h
          · exact HDL2.out d h
          · simp at h
            subst h
            exact hpl), hide HDU.out.2⟩
        case measure => have := HLT2.out; simp [intOf]; omega
end Go.Proofs.YteoopilmdlhkhaaDoor
