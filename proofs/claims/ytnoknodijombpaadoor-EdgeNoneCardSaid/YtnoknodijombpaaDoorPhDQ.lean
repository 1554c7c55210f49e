/- Layer 13, the program: edge.Whole: all functions of a program. Condition: no more than 1000 variables, blocks, instructions, arguments; no more than 100,000 functions. -/
import Derived.Test.YtnoknodijombpaaDoorPhDP
import Derived.Deep.CutRange
set_option linter.unusedSimpArgs false
set_option linter.unusedVariables false
namespace Go.Proofs.YtnoknodijombpaaDoor
open Go.RowKit

/-- What Split asks of a function. -/
structure SOk (f : FunV) : Prop where
  flow : FlowOk f
  one : 1 ≤ f.blocks.length
  kinds : f.kinds.length ≤ 1000
  bl : f.base.length ≤ 1000
  code : ∀ l ∈ f.blocks, 1 ≤ l.length ∧ l.length ≤ 1000 ∧ ∀ x ∈ l, x.args.length ≤ 1000
theorem EOk.sok {p : List FunV} {f : FunV} (h : EOk p f) : SOk f := ⟨h.flow, h.one, by have := h.kinds; omega, by have := h.kinds; have := h.bl; omega, h.code⟩
theorem SOk.split {f : FunV} (h : SOk f) (hf : fitsB f = true) : SOk (splitF f) :=
  ⟨split_flow h.flow hf, by rw [split_len h.flow]; have := h.one; omega, h.kinds, h.bl, fun l hl => by
    rcases split_code h.flow hl with ⟨l0, h0, h1, h2⟩ | ⟨t, rfl⟩
    · obtain ⟨q1, q2, q3⟩ := h.code l0 h0
      exact ⟨by omega, by omega, fun x hx => by obtain ⟨y, hy, e⟩ := h2 x hx; rw [e]; exact q3 y hy⟩
    · simp [jumpI]⟩
/-- A block of ints, of blocks or of instructions. -/
def NF (w : World) (b : Nat) : Prop := TB w 3 b ∨ TB w 41 b ∨ TB w 38 b
theorem NF.lt {w : World} {b : Nat} (h : NF w b) : b < w.heap.size := by rcases h with h | h | h <;> exact h.lt
theorem NF.keep {w w' : World} {b : Nat} (h : NF w b) (e : w'.heap[b]? = w.heap[b]?) : NF w' b := by
  rcases h with h | h | h
  · exact .inl (h.keep e)
  · exact .inr (.inl (h.keep e))
  · exact .inr (.inr (h.keep e))
theorem NF.ne {w : World} {b g : Nat} {T : TypeId} (h : NF w b) (hT : TB w T g) (h1 : 3 ≠ T) (h2 : 41 ≠ T) (h3 : 38 ≠ T) : b ≠ g := by
  rcases h with h | h | h
  · exact tb_ne h hT h1
  · exact tb_ne h hT h2
  · exact tb_ne h hT h3
theorem funI_NF {w w' : World} {vk vb vs : Value} {f : FunV} (h : FunI w (NF w) vk vb vs f) (hk : ∀ b, NF w b → w'.heap[b]? = w.heap[b]?) : FunI w' (NF w') vk vb vs f :=
  h.keep (fun b o hb => World.cell?_of_block (a := ⟨b, o, none⟩) (hk b hb)) (fun b hb => hb.keep (hk b hb))
theorem CodeM.inssNF {w : World} {base : Nat} {p : List InsV × Value} (h : CodeM w base p) : InssV w (NF w) p.2 p.1 := by
  obtain ⟨q, h1, h2, h3⟩ := h
  rw [← h1]
  exact codes_vec h2 (fun r hr => (h3 r hr).keep (fun _ _ _ => rfl) (fun b hb => .inl hb)) (fun b hb => .inr (.inr (h2.row b hb)))
theorem spl_funNF {f : FunV} {vk vb vs v1 v2 v3 : Value} {l : List (List InsV × Value)} {w0 w : World} {base B : Nat} (hi : FunI w0 (· < B) vk vb vs f) (h1 : Ow w base 3 .i64 v1 f.kinds) (h2 : Ow w base 3 .i64 v2 f.base) (hm : BlkM w base v3 l) (hl : l.map (·.1) = (splitF f).blocks) : FunI w (NF w) v1 v2 v3 (splitF f) := by
  obtain ⟨-, -, -, -, -, -, hR1⟩ := hi.1.sl
  obtain ⟨-, -, -, -, -, -, hR2⟩ := hi.2.1.sl
  refine ⟨ints_vec h1 hR1 (fun b hb => .inl (h1.tbI hb)), ints_vec h2 hR2 (fun b hb => .inl (h2.tbI hb)), ?_, hi.2.2.2.1, hi.2.2.2.2⟩
  have t : BlksV w (NF w) v3 (l.map (·.1)) := blks_vec hm.own (fun p hp => (hm.code p hp).inssNF) (fun b hb => .inr (.inl (hm.own.row b hb)))
  rw [hl] at t
  exact t
/-- The functions of a program under way: the box of what is split, the result, what is built. -/
structure WhB (pv : Value) (h1 : Nat) (v : Value) (ys : List (FunV × Value × Value × Value)) (w0 w : World) : Prop where
  bp : Box w h1 #[pv] 24
  bz : Box w (h1 + 1) #[.slice none 0 0] 24
  bx : Box w (h1 + 2) #[v] 24
  own : OwC funC 34 5 w w0.heap.size v ys
  funs : ∀ y ∈ ys, FunI w (NF w) y.2.1 y.2.2.1 y.2.2.2 y.1
  bel : Below w0.heap.size w0 w
section
variable {pv v v5 vk vb vs : Value} {h1 : Nat} {ys : List (FunV × Value × Value × Value)} {w0 w w' w5 : World} {f : FunV}
theorem WhB.below (h : WhB pv h1 v ys w0 w) (hb : Below w.heap.size w w') : WhB pv h1 v ys w0 w' :=
  ⟨h.bp.below hb, h.bz.below hb, h.bx.below hb, h.own.kept (fun g hg => hb.block g (h.own.lt g hg).2), fun y hy => funI_NF (h.funs y hy) (fun b hb' => hb.block b hb'.lt), h.bel.trans (hb.mono h.bel.size)⟩
theorem WhB.app (h : WhB pv h1 v ys w0 w) (hh : w0.heap.size ≤ h1) (hn : FunI w (NF w) vk vb vs f)
    (hgr : (w.alloc (.cells #[vk, vb, .int .i64 f.params, .int .i64 f.result, vs] 34)).grownBy w5 v.ownBlock) (ho : OwC funC 34 5 w5 w0.heap.size v5 (ys ++ [(f, vk, vb, vs)])) :
    WhB pv h1 v5 (ys ++ [(f, vk, vb, vs)]) w0 (w5.setCell ⟨h1 + 2, 0, none⟩ v5) := by
  have hb4 : Below w.heap.size w (w.alloc (.cells #[vk, vb, .int .i64 f.params, .int .i64 f.result, vs] 34)) := alloc1 w _
  have hk : ∀ b, b < w.heap.size → v.ownBlock ≠ some b → w5.heap[b]? = w.heap[b]? := fun b hb hn => (hgr.block b (by have := hb4.size; omega) (fun e => hn e.symm)).trans (hb4.block b hb)
  have hoF : ∀ b, v.ownBlock = some b → TB w 34 b := fun b hb => h.own.row b hb
  have hbp5 : Box w5 h1 #[pv] 24 := (hk h1 h.bp.lt (fun e => tb_ne h.bp.tb (hoF _ e) (by decide) rfl)).trans h.bp
  have hbz5 : Box w5 (h1 + 1) #[.slice none 0 0] 24 := (hk (h1 + 1) h.bz.lt (fun e => tb_ne h.bz.tb (hoF _ e) (by decide) rfl)).trans h.bz
  have hbx5 : Box w5 (h1 + 2) #[v] 24 := (hk (h1 + 2) h.bx.lt (fun e => tb_ne h.bx.tb (hoF _ e) (by decide) rfl)).trans h.bx
  have hNF : ∀ b, NF w b → w5.heap[b]? = w.heap[b]? := fun b hb => hk b hb.lt (fun e => hb.ne (hoF _ e) (by decide) (by decide) (by decide) rfl)
  have hNF2 : ∀ b, NF w5 b → (w5.setCell ⟨h1 + 2, 0, none⟩ v5).heap[b]? = w5.heap[b]? := fun b hb => heap_setCell_other w5 ⟨h1 + 2, 0, none⟩ b _ (hb.ne hbx5.tb (by decide) (by decide) (by decide))
  have hbel : Below w0.heap.size w0 w5 := (h.bel.trans (hb4.mono h.bel.size)).grown hgr (by have := h.bel.size; simp only [World.size_alloc]; omega) (fun k hk => by have := (h.own.lt k hk).1; omega)
  refine ⟨hbp5.other (by omega), hbz5.other (by omega), ?_, ho.kept fun g hg => heap_setCell_other w5 ⟨h1 + 2, 0, none⟩ g _ (tb_ne (ho.row g hg) hbx5.tb (by decide)), fun y hy => ?_, Below.setCell hbel (by show _ ≤ h1 + 2; omega) _⟩
  · have t := hbx5.set 0 v5
    simpa using t
  · rcases List.mem_append.1 hy with hy | hy
    · exact funI_NF (funI_NF (h.funs y hy) hNF) hNF2
    · simp at hy
      subst hy
      exact funI_NF (funI_NF hn hNF) hNF2
theorem WhB.vec (h : WhB pv h1 v ys w0 w) (hh : w0.heap.size ≤ h1) : Box (w.setCell ⟨h1 + 1, 0, none⟩ v) (h1 + 1) #[v] 24 ∧ FunsV (w.setCell ⟨h1 + 1, 0, none⟩ v) (· < (w.setCell ⟨h1 + 1, 0, none⟩ v).heap.size) v (ys.map (·.1)) ∧ Below w0.heap.size w0 (w.setCell ⟨h1 + 1, 0, none⟩ v) := by
  have ho : OwC funC 34 5 (w.setCell ⟨h1 + 1, 0, none⟩ v) w0.heap.size v ys := h.own.kept fun g hg => heap_setCell_other w ⟨h1 + 1, 0, none⟩ g _ (tb_ne (h.own.row g hg) h.bz.tb (by decide))
  have hNF2 : ∀ b, NF w b → (w.setCell ⟨h1 + 1, 0, none⟩ v).heap[b]? = w.heap[b]? := fun b hb => heap_setCell_other w ⟨h1 + 1, 0, none⟩ b _ (hb.ne h.bz.tb (by decide) (by decide) (by decide))
  refine ⟨by have t := h.bz.set 0 v; simpa using t, funs_vec ho (fun y hy => (funI_NF (h.funs y hy) hNF2).keep (fun _ _ _ => rfl) (fun b hb => hb.lt)) (fun b hb => (ho.lt b hb).2), Below.setCell h.bel (by show _ ≤ h1 + 1; omega) _⟩
end
theorem size_prog13 : (Tryd.prog.info? 24).map (·.size) = some 1 := by kernel_rfl
theorem info_func13 : (Tryd.prog.info? 34).map (fun i => (i.zero, i.size, i.bytes)) = some (some (.agg #[.slice none 0 0, .slice none 0 0, .int .i64 0, .int .i64 0, .slice none 0 0]), 5, 88) := by kernel_rfl
def WhA (p : List FunV) (w : World) (e : Ending) (w' : World) : Prop := (p.all fitsB = true → ∃ v, e = .returned (.tuple #[.agg #[v], .int .i64 0]) ∧ FunsV w' (· < w'.heap.size) v (p.map splitF) ∧ Below w.heap.size w w') ∧
  (p.all fitsB = false → e = .returned (.tuple #[.agg #[.slice none 0 0], .int .i64 9]) ∧ Below w.heap.size w w')
set_option maxHeartbeats 4000000 in
set_option maxRecDepth 100000 in
theorem ewhole_any (vp : Value) (p : List FunV) (w : World) (B : Nat) (hB : B ≤ w.heap.size) (hp : FunsV w (· < B) vp p) (hok : ∀ f ∈ p, SOk f) (hlen : p.length ≤ 100000) :
    Calls Tryd.prog 6 #[.agg #[vp]] w (WhA p w) := by
  have HKP := hide (fun (W : World) (hW : Below w.heap.size w W) => hp.keep (up hW hB) (fun _ h => h))
  have HOKS := hide hok
  have HBB := hide hB
  obtain ⟨iF, hiF, fz0, fz1, fz2⟩ := info_parts info_func13
  have HIF := hide hiF
  obtain ⟨A, c, rfl, hpc, hpm⟩ := hp.open'
  obtain ⟨lp, hlp⟩ : ∃ lp, p.length = lp := ⟨_, rfl⟩
  have HLP := hide hlp
  rw [hlp] at HKP hpc hlen ⊢
  clear hp hlp hok hB hiF
  go_enter Tryd.func6, Tryd.ntmps6
  go_upto_region 3 with (fail)
  obtain ⟨w1, hw1⟩ : ∃ w1, w1 = ((w.alloc (.cells #[.slice A lp c] 24)).alloc (.cells #[.slice none 0 0] 24)).alloc (.cells #[.slice none 0 0] 24) := ⟨_, rfl⟩
  obtain ⟨h1, hh1⟩ : ∃ h1, w.heap.size = h1 := ⟨_, rfl⟩
  have HH1 := hide hh1
  have HW1 := hide (show WhB (.slice A lp c) h1 (.slice none 0 0) [] w w1 by
    have q1 : Box w1 h1 #[.slice A lp c] 24 := by rw [hw1, ← hh1]; exact ((Box.new w _ _).alloc _).alloc _
    have q2 : Box w1 (h1 + 1) #[.slice none 0 0] 24 := by
      have t := Box.new (w.alloc (.cells #[.slice A lp c] 24)) #[.slice none 0 0] 24
      rw [World.size_alloc, hh1] at t
      rw [hw1]
      exact t.alloc _
    have q3 : Box w1 (h1 + 2) #[.slice none 0 0] 24 := by
      have t := Box.new ((w.alloc (.cells #[.slice A lp c] 24)).alloc (.cells #[.slice none 0 0] 24)) #[.slice none 0 0] 24
      rw [World.size_alloc, World.size_alloc, hh1] at t
      rw [hw1]
      exact t
    exact ⟨q1, q2, q3, OwC.nil _ _, (fun _ h => by cases h), by rw [hw1]; exact ((alloc1 w _).alloc (by simp only [World.size_alloc]; omega) _).alloc (by simp only [World.size_alloc]; omega) _⟩)
  rw [← hw1, hh1]
  clear hw1 hh1
  have l1 := HW1.out.bp.lt
  go_loopw [12] (fun i wr => ∃ (k : Nat) (v : Value) (ys : List (FunV × Value × Value × Value)), k ≤ lp ∧ i = .int .i64 (k : Int) ∧ WhB (.slice A lp c) h1 v ys w wr ∧ Hid (ys.map (·.1) = (p.take k).map splitF ∧ ∀ f ∈ p.take k, fitsB f = true)) (fun i _ => lp - (intOf i).toNat)
  case atStart => exact ⟨0, _, [], Nat.zero_le _, rfl, HW1.out, hide ⟨rfl, fun f hf => by simp at hf⟩⟩
  case round =>
    obtain ⟨k, v, ys, hk, rfl, hb', hys⟩ := hrel
    obtain ⟨wo, rfl⟩ : ∃ wo, wo = wr := ⟨_, rfl⟩
    have HYL := hide (show ys.length = k by have := congrArg List.length hys.out.1; simp at this; have := HLP.out; omega)
    obtain ⟨Av, cv, hv, -, -⟩ := hb'.own.sl
    rw [HYL.out] at hv
    subst hv
    have HWO := hide hb'
    clear hb'
    have hszo := HWO.out.bel.size
    by_cases hlt : k < lp
    case neg =>
      have HZ := hide (HWO.out.vec (by have := HH1.out; omega))
      have HYA := hide (show p.all fitsB = true by
        rw [List.all_eq_true]
        intro f hf
        exact hys.out.2 f (by rw [List.take_of_length_le (by have := HLP.out; omega)]; exact hf))
      have HYM := hide (show ys.map (·.1) = p.map splitF by rw [hys.out.1, List.take_of_length_le (by have := HLP.out; omega)])
      obtain ⟨x0, x0f⟩ := HWO.out.bx.cell 0 (v := .slice Av k cv) rfl
      obtain ⟨z0, z0f⟩ := HWO.out.bz.cell 0 (v := .slice none 0 0) rfl
      have lz := HWO.out.bz.lt
      have lx := HWO.out.bx.lt
      go_wp2
      (try simp only [Exit.inBlock, Exit.then])
      refine bodyPost_ret (results_cell_row_tmp rfl _ _ (h1 + 1) 24 #[.slice Av k cv] (0, 0) _ (by rfl) HZ.out.1 Tryd.underlying24 rfl size_prog13) rfl ?_
      exact ⟨fun _ => ⟨_, rfl, by rw [← HYM.out]; exact HZ.out.2.1, HZ.out.2.2⟩, fun h => by rw [HYA.out] at h; cases h⟩
    have HKLT := hide hlt
    obtain ⟨f, hf⟩ : ∃ f, p[k]? = some f := ⟨_, List.getElem?_eq_getElem (by have := HLP.out; omega)⟩
    obtain ⟨b, o, Ak, ck, Ab, cb, As, cs, hA, hbb, ⟨e0, e1, e2, e3, e4⟩, hi⟩ := (HKP.out wo HWO.out.bel).get hf
    subst hA
    have hbs : b < wo.heap.size := by have := HBB.out; omega
    have HLF := hide (HOKS.out f (List.mem_of_getElem? hf))
    have kI := fun (W : World) (hW : Below wo.heap.size wo W) => hi.keep (w := wo) (S := (· < B)) (up hW (by have := HBB.out; omega)) (fun _ h => h)
    have HSPL := hide (fun (W : World) (hW : Below wo.heap.size wo W) => (esplit_any _ _ _ f W B (by have := hW.size; have := HBB.out; omega) (kI W hW) HLF.out.flow HLF.out.one HLF.out.kinds HLF.out.bl HLF.out.code).mono (R' := fun e w' => (fitsB f = true → ∃ v1 v2 v3, e = .returned (.tuple #[.agg #[v1, v2, .int .i64 f.params, .int .i64 f.result, v3], .int .i64 0]) ∧ FunI w' (NF w') v1 v2 v3 (splitF f) ∧ Below W.heap.size W w') ∧ (fitsB f = false → e = .returned (.tuple #[.agg #[.slice none 0 0, .slice none 0 0, .int .i64 0, .int .i64 0, .slice none 0 0], .int .i64 9]) ∧ Below W.heap.size W w')) (fun e w' h => ⟨fun hf => by
      obtain ⟨v1, v2, v3, l, h1, h2, h3, h4, h5, h6⟩ := h.1 hf
      exact ⟨v1, v2, v3, h1, spl_funNF (kI W hW) h2 h3 h4 h5, h6⟩, h.2⟩))
    have HTK := hide (show p.take (k + 1) = p.take k ++ [f] by rw [List.take_add_one, hf]; rfl)
    have HMF := hide (List.mem_of_getElem? hf)
    obtain ⟨ft, hft⟩ : ∃ ft, fitsB f = ft := ⟨_, rfl⟩
    have HFT := hide hft
    rw [hft] at HSPL
    obtain ⟨fg, hfg⟩ : ∃ fg, splitF f = fg := ⟨_, rfl⟩
    have HFG := hide hfg
    have HPP := hide (show f.params = fg.params ∧ f.result = fg.result by rw [← hfg]; exact ⟨rfl, rfl⟩)
    rw [hfg] at HSPL
    obtain ⟨ls, hls2⟩ : ∃ ls, f.blocks.length = ls := ⟨_, rfl⟩
    rw [hls2] at HSPL e4
    clear hi hf kI hls2 hft hfg
    obtain ⟨fp, hfp⟩ : ∃ fp, f.params = fp := ⟨_, rfl⟩
    obtain ⟨fr, hfr⟩ : ∃ fr, f.result = fr := ⟨_, rfl⟩
    rw [hfp] at HPP HSPL e2
    rw [hfr] at HPP HSPL e3
    generalize f.kinds.length = lk, f.base.length = lb at *
    have hki : (0 : Int) ≤ (k : Int) := by omega
    have hkl : (k : Int) < (lp : Int) := by omega
    clear hfp hfr
    go_upto_region 5 with (fail)
    obtain ⟨w5, hw5⟩ : ∃ w5, w5 = wo.alloc (.cells #[.slice Ak lk ck, .slice Ab lb cb, .int .i64 fp, .int .i64 fr, .slice As ls cs] 34) := ⟨_, rfl⟩
    obtain ⟨h5, hh5⟩ : ∃ h5, wo.heap.size = h5 := ⟨_, rfl⟩
    have HX5 := hide (show Box w5 h5 #[.slice Ak lk ck, .slice Ab lb cb, .int .i64 fp, .int .i64 fr, .slice As ls cs] 34 by rw [hw5, ← hh5]; exact Box.new wo _ _)
    have HB5 := hide (show Below wo.heap.size wo w5 by rw [hw5]; exact alloc1 wo _)
    rw [← hw5, hh5]
    clear hw5 hh5 e0 e1 e2 e3 e4 hbs
    have l5 := HX5.out.lt
    have hz5 := HB5.out.size
    have HSPW := hide (HSPL.out w5 HB5.out)
    obtain ⟨c0, c1, c2, c3, c4⟩ := And.intro (HX5.out.cell 0 (v := .slice Ak lk ck) rfl).1 (And.intro (HX5.out.cell 1 (v := .slice Ab lb cb) rfl).1 (And.intro (HX5.out.cell 2 (v := .int .i64 fp) rfl).1 (And.intro (HX5.out.cell 3 (v := .int .i64 fr) rfl).1 (HX5.out.cell 4 (v := .slice As ls cs) rfl).1)))
    cases ft with
    | false =>
      have HYN := hide (show p.all fitsB = false by
        cases ha : p.all fitsB with
        | false => rfl
        | true =>
          have := List.all_eq_true.1 ha f HMF.out
          rw [HFT.out] at this
          cases this)
      go_upto_region 6 with (go_at_call 10; (with_reducible refine HSPW.out.mono ?_); rintro e w7 ⟨-, h7⟩; obtain ⟨rfl, hb7⟩ := h7 rfl; have HW7 := hide (HWO.out.below (HB5.out.trans (hb7.mono hz5))); clear hb7 h7 c0 c1 c2 c3 c4)
      obtain ⟨w8, hw8⟩ : ∃ w8, w8 = w7.alloc (.cells #[.slice none 0 0, .slice none 0 0, .int .i64 0, .int .i64 0, .slice none 0 0] 34) := ⟨_, rfl⟩
      have HW8 := hide (show WhB (.slice (some ⟨b, o, none⟩) lp c) h1 (.slice Av k cv) ys w w8 by rw [hw8]; exact HW7.out.below (alloc1 w7 _))
      rw [← hw8]
      clear hw8
      obtain ⟨z0, z0f⟩ := HW8.out.bz.cell 0 (v := .slice none 0 0) rfl
      have lz := HW8.out.bz.lt
      have HZ := hide (show Box (w8.setCell ⟨h1 + 1, 0, none⟩ (.slice none 0 0)) (h1 + 1) #[.slice none 0 0] 24 by have t := HW8.out.bz.set 0 (.slice none 0 0); simpa using t)
      have HZB := hide (show Below w.heap.size w (w8.setCell ⟨h1 + 1, 0, none⟩ (.slice none 0 0)) from Below.setCell HW8.out.bel (by show _ ≤ h1 + 1; have := HH1.out; omega) _)
      go_wp2
      (try simp only [Exit.inBlock, Exit.then])
      refine bodyPost_ret (results_cell_row_tmp rfl _ _ (h1 + 1) 24 #[.slice none 0 0] (0, 0) _ (by rfl) HZ.out Tryd.underlying24 rfl size_prog13) rfl ?_
      exact ⟨fun h => (by rw [HYN.out] at h; cases h), fun _ => ⟨rfl, HZB.out⟩⟩
    | true =>
      obtain ⟨gk, hgk⟩ : ∃ gk, fg.kinds.length = gk := ⟨_, rfl⟩
      obtain ⟨gb, hgb⟩ : ∃ gb, fg.base.length = gb := ⟨_, rfl⟩
      obtain ⟨gl, hgl⟩ : ∃ gl, fg.blocks.length = gl := ⟨_, rfl⟩
      have HGK := hide hgk
      have HGB := hide hgb
      have HGL := hide hgl
      clear hgk hgb hgl
      go_upto_region 6 with (go_at_call 10; (with_reducible refine HSPW.out.mono ?_); rintro e w7 ⟨h7, -⟩; obtain ⟨v1, v2, v3, rfl, hf7, hb7⟩ := h7 rfl; obtain ⟨A1, k1, hv1, -, -⟩ := hf7.1.open'; obtain ⟨A2, k2, hv2, -, -⟩ := hf7.2.1.open'; obtain ⟨A4, k4, hv4, -, -⟩ := hf7.2.2.1.open'; rw [HGK.out] at hv1; rw [HGB.out] at hv2; rw [HGL.out] at hv4; subst hv1; subst hv2; subst hv4; have HF7 := hide hf7; have HW7 := hide (HWO.out.below (HB5.out.trans (hb7.mono hz5))); clear hb7 h7 hf7 c0 c1 c2 c3 c4)
      obtain ⟨w8, hw8⟩ : ∃ w8, w8 = w7.alloc (.cells #[.slice A1 gk k1, .slice A2 gb k2, .int .i64 fp, .int .i64 fr, .slice A4 gl k4] 34) := ⟨_, rfl⟩
      obtain ⟨h8, hh8⟩ : ∃ h8, w7.heap.size = h8 := ⟨_, rfl⟩
      have HX8 := hide (show Box w8 h8 #[.slice A1 gk k1, .slice A2 gb k2, .int .i64 fp, .int .i64 fr, .slice A4 gl k4] 34 by rw [hw8, ← hh8]; exact Box.new w7 _ _)
      have HW8 := hide (show WhB (.slice (some ⟨b, o, none⟩) lp c) h1 (.slice Av k cv) ys w w8 by rw [hw8]; exact HW7.out.below (alloc1 w7 _))
      have HF8 := hide (show FunI w8 (NF w8) (.slice A1 gk k1) (.slice A2 gb k2) (.slice A4 gl k4) fg by rw [hw8]; exact funI_NF HF7.out (fun x hx => (alloc1 w7 _ : Below w7.heap.size w7 _).block x hx.lt))
      rw [← hw8, hh8]
      clear hw8 hh8
      have l8 := HX8.out.lt
      obtain ⟨y0, y0f⟩ := HX8.out.cell 0 (v := .slice A1 gk k1) rfl
      obtain ⟨y1, y1f⟩ := HX8.out.cell 1 (v := .slice A2 gb k2) rfl
      obtain ⟨y2, y2f⟩ := HX8.out.cell 2 (v := .int .i64 fp) rfl
      obtain ⟨y3, y3f⟩ := HX8.out.cell 3 (v := .int .i64 fr) rfl
      obtain ⟨y4, y4f⟩ := HX8.out.cell 4 (v := .slice A4 gl k4) rfl
      obtain ⟨x0, x0f⟩ := HW8.out.bx.cell 0 (v := .slice Av k cv) rfl
      have lx := HW8.out.bx.lt
      have HOW := hide (show OwC funC 34 5 (w8.alloc (.cells #[.slice A1 gk k1, .slice A2 gb k2, .int .i64 fp, .int .i64 fr, .slice A4 gl k4] 34)) w.heap.size (.slice Av k cv) ys from (HW8.out.below (alloc1 w8 _)).own)
      have HNX := hide (Box.new w8 #[.slice A1 gk k1, .slice A2 gb k2, .int .i64 fp, .int .i64 fr, .slice A4 gl k4] 34)
      have hroom : k < 1000000 := by omega
      have HGE : ∀ (v5 : Value) (w9 : World), OwC funC 34 5 w9 w.heap.size v5 (ys ++ [(fg, .slice A1 gk k1, .slice A2 gb k2, .slice A4 gl k4)]) → (w8.alloc (.cells #[.slice A1 gk k1, .slice A2 gb k2, .int .i64 fp, .int .i64 fr, .slice A4 gl k4] 34)).grownBy w9 (Value.slice Av k cv).ownBlock → WhB (.slice (some ⟨b, o, none⟩) lp c) h1 v5 (ys ++ [(fg, .slice A1 gk k1, .slice A2 gb k2, .slice A4 gl k4)]) w (w9.setCell ⟨h1 + 2, 0, none⟩ v5) ∧ Box w9 (h1 + 2) #[.slice Av k cv] 24 := fun v5 w9 ho hg => by
        refine ⟨HW8.out.app (by have := HH1.out; omega) HF8.out (by rw [← HPP.out.1, ← HPP.out.2]; exact hg) ho, ?_⟩
        exact (hg.block (h1 + 2) (by simp only [World.size_alloc]; omega) (fun e => tb_ne HW8.out.bx.tb (HW8.out.own.row _ e.symm) (by decide) rfl)).trans (HW8.out.bx.alloc _)
      have HGE := hide HGE
      go_wp2_with (at_builtin; refine wpList_append_c (c := funC) (sz := 5) (w8.alloc (.cells #[.slice A1 gk k1, .slice A2 gb k2, .int .i64 fp, .int .i64 fr, .slice A4 gl k4] 34)) (by rfl) _ _ _ (by rfl) w.heap.size iF _ 88 Tryd.underlying22 HIF.out fz0 fz1 fz2 rfl (by omega) (by omega) (.slice Av k cv) ys k HYL.out (by rfl) HOW.out (fg, .slice A1 gk k1, .slice A2 gb k2, .slice A4 gl k4) rfl (by intro u hu; simp [funC] at hu; rcases hu with rfl | rfl | rfl | rfl | rfl <;> rfl) w8.heap.size _ HNX.out (by show _ = [_, _, Value.int .i64 fg.params, Value.int .i64 fg.result, _]; rw [← HPP.out.1, ← HPP.out.2]) (by rfl) hroom (by simp only [World.size_alloc]; have := HW8.out.bel.size; omega) ?_; intro g9 c9 w9 ho9 hg9 ha9 hl9; obtain ⟨hwn, hbx⟩ := HGE.out _ w9 ho9 hg9; have HA9 := hide hwn; obtain ⟨x4', f4'⟩ := hbx.cell 0 (v := .slice Av k cv) rfl; have lx9 := hbx.lt; clear ho9 hg9 hwn hbx)
      go_roundw
      case rel => exact ⟨k + 1, _, _, by have := HKLT.out; omega, by go_num, HA9.out, hide ⟨by rw [HTK.out, List.map_append, List.map_append, hys.out.1]; simp [HFG.out], fun x hx => by
        rw [HTK.out] at hx
        rcases List.mem_append.1 hx with hx | hx
        · exact hys.out.2 x hx
        · simp at hx
          rw [hx]
          exact HFT.out⟩⟩
      case measure => have := HKLT.out; simp [intOf]; omega
end Go.Proofs.YtnoknodijombpaaDoor
