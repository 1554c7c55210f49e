/- Layer 13: the reference's Copy: its first region. Condition: no more than 1000 variables. -/
import Derived.Test.YtnoknodijombpaaPgDV
import Derived.Deep.RegionHeld3
import Derived.Deep.CutRange
import Derived.Deep.AppendLies
set_option linter.unusedSimpArgs false
set_option linter.unusedVariables false
namespace Go.Proofs.Ytnoknodijombpaa
open Go.RowKit

theorem Ow.lit13 {w : World} {H B : Nat} (hb : Box w H #[] 3) (hB : B ≤ H) : Ow w B 3 .i64 (.slice (some ⟨H, 0, none⟩) 0 0) [] :=
  ⟨rfl, .inr ⟨H, 0, #[], rfl, hB, hb, Nat.le_refl _, by simp [maxLen], rfl, rfl⟩⟩
/-- append([]int{}, x..) at a step of a region that draws its order. -/
theorem step_append_row13 {P : Program} (w : World) {ops : Array Oper} {o : Oper} {a : Act} {K : Act → World → Prop} {Q : Exit → Act → World → Prop} {E : Prop} (hgd : o.guard = none) (s x : Operand) (t : TypeId)
    (ho : o.op = .call { callee := .builtin .append, args := #[s, x], argTypes := #[t, t] })
    (i : TypeInfo) (z : Value) (ht : P.underlying t = some (.slice 3)) (hi : P.info? 3 = some i) (hz : i.zero = some z)
    (hsize : i.size = 1) (hby : i.bytes = 8) (hzs : z.cells.size = 1)
    (H : Nat) (hs : a.eval s = .slice (some ⟨H, 0, none⟩) 0 0) (hH : Box w H #[] 3)
    (B : Nat) (A : Option Addr) (m c : Nat) (news : List Int) (hx : a.eval x = .slice A m c) (hm : news.length = m) (hr : Sl w B .i64 A news)
    (hroom : m ≤ 1000000)
    (h : ∀ g cap w', Ow w' H 3 .i64 (.slice (some ⟨g, 0, none⟩) m cap) news → w.grownBy w' (some H) → (g = H ∨ g = w.heap.size) → g < w'.heap.size → K (a.put o.dst (.slice (some ⟨g, 0, none⟩) m cap)) w') :
    if Region.wanted o (yielded ops a.tmps) = true then Oper.wp P o a w K Q else E := by
  subst hm
  have hlt := hH.lt
  have hown := Ow.lit13 hH (Nat.le_refl H)
  by_cases h0 : news = []
  · subst h0
    have hw : Region.wanted o (yielded ops a.tmps) = true := by simp [Region.wanted, hgd]
    rw [if_pos hw]
    have hrun : (Builtin.append_ #[t, t] o.type #[.slice (some ⟨H, 0, none⟩) 0 0, .slice A ([] : List Int).length c]).run P w = .ok (.slice (some ⟨H, 0, none⟩) 0 0) w := by
      cases A <;> simp [Builtin.append_, run_underlying ht, sizeOf, typeInfo, hi, Builtin.lenOf, Builtin.firstCells, storeCells, loadCells, loadCellsFrom]
    unfold Oper.wp execOp
    simp only [ho, resolve, invoke, builtin, Sem.run_bind, Sem.run_pure, Result.andThen_ok, List.map_toArray, List.map_cons, List.map_nil, hs, hx, hrun]
    exact h H 0 w hown (World.grownBy.refl _ _) (.inl rfl) hlt
  · obtain ⟨b, off, rfl, _, hc⟩ := hr (List.length_pos_iff.2 h0)
    refine step_append_lies w hgd s x t ho H 3 i z 1 8 ht hi hz hsize hby hzs (by omega) (.slice (some ⟨H, 0, none⟩) 0 0) 0 [] hs hown ⟨b, off, none⟩ news.length c (news.map (Value.int .i64)) hx (by simp)
      (fun j u hu => by
          have hj : j < news.length := by have := (List.getElem?_eq_some_iff.1 hu).1; simpa using this
          rw [Addr.add_lit, hc j hj]
          rw [← hu]
          simp [List.getD, hj]) (ints_one .i64 news) (List.length_pos_iff.2 h0) (by simp only [maxLen]; omega) (by omega) (by omega) w.heap.size rfl
      fun g cap w' h2 h3 h4 h5 => ?_
    rw [Nat.zero_add] at h2 ⊢
    refine h g cap w' (by unfold Ow; exact h2) h3 ?_ h5
    rcases h4 with h4 | h4
    · left
      have : some H = some g := h4
      injection this with this
      exact this.symm
    · exact .inr h4
theorem SplC.appC {fp fr : Int} {ks es : List Int} {base h1 hz : Nat} {v1 v2 v3 v5 u : Value} {l : List (List InsV × Value)} {lx : List InsV} {w0 w w4 w5 : World} (h : SplC fp fr ks es base h1 hz v1 v2 v3 l w0 w) (hb0 : w0.heap.size ≤ base) (hh : base ≤ h1) (hzh : hz ≠ h1) (hb4 : Below w.heap.size w w4) (hgr : w4.grownBy w5 v3.ownBlock)
    (ho : OwC blkC 53 1 w5 base v5 (l ++ [(lx, u)])) (hc : CodeM w5 base (lx, u)) (hu : ∀ g, u.ownBlock = some g → w.heap.size ≤ g) :
    SplC fp fr ks es base h1 hz v1 v2 v5 (l ++ [(lx, u)]) w0 (w5.setCell ⟨h1, 4, none⟩ v5) ∧ Box w5 h1 #[v1, v2, .int .i64 fp, .int .i64 fr, v3] 30 := by
  have hk : ∀ b, b < w.heap.size → v3.ownBlock ≠ some b → w5.heap[b]? = w.heap[b]? := fun b hb hn => (hgr.block b (by have := hb4.size; omega) (fun e => hn e.symm)).trans (hb4.block b hb)
  have hoB : ∀ b, v3.ownBlock = some b → TB w 53 b := fun b hb => h.m.own.row b hb
  have hbx5 : Box w5 h1 #[v1, v2, .int .i64 fp, .int .i64 fr, v3] 30 := (hk h1 h.bx.lt (fun e => tb_ne h.bx.tb (hoB _ e) (by decide) rfl)).trans h.bx
  have hbz5 : Box w5 hz #[.slice none 0 0, .slice none 0 0, .int .i64 0, .int .i64 0, .slice none 0 0] 30 := (hk hz h.bz.lt (fun e => tb_ne h.bz.tb (hoB _ e) (by decide) rfl)).trans h.bz
  have hok5 : Ow w5 base 3 .i64 v1 ks := h.ok.kept' fun x hx => hk x (h.ok.tbI hx).lt (fun e => tb_ne (h.ok.tbI hx) (hoB _ e) (by decide) rfl)
  have hoe5 : Ow w5 base 3 .i64 v2 es := h.oe.kept' fun x hx => hk x (h.oe.tbI hx).lt (fun e => tb_ne (h.oe.tbI hx) (hoB _ e) (by decide) rfl)
  have hm5 := h.m.app hb4 hgr ho hc hu
  have hbel : Below w0.heap.size w0 w5 := (h.bel.trans (hb4.mono h.bel.size)).grown hgr (by have := h.bel.size; have := hb4.size; omega) (fun k hk => by have := (h.m.own.lt k hk).1; omega)
  refine ⟨⟨?_, hbz5.other hzh, hok5.kept' fun x hx => heap_setCell_other w5 ⟨h1, 4, none⟩ x _ (tb_ne (hok5.tbI hx) hbx5.tb (by decide)), hoe5.kept' fun x hx => heap_setCell_other w5 ⟨h1, 4, none⟩ x _ (tb_ne (hoe5.tbI hx) hbx5.tb (by decide)), hm5.other hbx5.tb (by decide) (by decide) (by decide) _, Below.setCell hbel (by show _ ≤ h1; omega) _⟩, hbx5⟩
  have t := hbx5.set 4 v5
  simpa using t
theorem info_ins13c : (Try.prog.info? 50).map (fun i => (i.zero, i.size, i.bytes)) = some (some (.agg #[.int .i64 0, .int .i64 0, .int .i64 0, .int .i64 0, .int .i64 0, .int .i64 0, .slice none 0 0]), 7, 72) := by kernel_rfl
set_option maxHeartbeats 4000000 in
set_option maxRecDepth 100000 in
theorem rcopyF_any (vk vb vs : Value) (f : FunV) (w : World) (B : Nat) (hB : B ≤ w.heap.size) (hi : FunI w (· < B) vk vb vs f) (hk : f.kinds.length ≤ 1000) (hbl : f.base.length ≤ 1000) (hls40 : f.blocks.length ≤ 1000) (hcode : ∀ l ∈ f.blocks, l.length ≤ 1000 ∧ ∀ x ∈ l, x.args.length ≤ 1000) : CopyA f w vk vb vs := by
  unfold CopyA
  have HSK := hide (fun (W : World) (hW : Below w.heap.size w W) => (hi.1.keep (up hW hB) (fun _ h => h) : IntsV W (· < B) vk f.kinds))
  have HSB := hide (fun (W : World) (hW : Below w.heap.size w W) => (hi.2.1.keep (up hW hB) (fun _ h => h) : IntsV W (· < B) vb f.base))
  obtain ⟨i0, hi0, iz0, iz1, iz2⟩ := info_parts info_i64
  have HI := hide hi0
  obtain ⟨Ak, ck, rfl, hck, hmk⟩ := hi.1.open'
  obtain ⟨Ab, cb, rfl, hcb, hmb⟩ := hi.2.1.open'
  obtain ⟨As, cs, rfl, hcs, hms⟩ := hi.2.2.1.open'
  obtain ⟨ks, hks⟩ : ∃ ks, f.kinds = ks := ⟨_, rfl⟩
  obtain ⟨es, hes⟩ : ∃ es, f.base = es := ⟨_, rfl⟩
  rw [hks] at HSK hk hck ⊢
  rw [hes] at HSB hbl hcb ⊢
  obtain ⟨lk, hlk⟩ : ∃ lk, ks.length = lk := ⟨_, rfl⟩
  obtain ⟨lb, hlb⟩ : ∃ lb, es.length = lb := ⟨_, rfl⟩
  have HLK := hide hlk
  have HLB := hide hlb
  rw [hlk] at HSK hk hck ⊢
  rw [hlb] at HSB hbl hcb ⊢
  obtain ⟨fp, hfp⟩ : ∃ fp, f.params = fp := ⟨_, rfl⟩
  obtain ⟨fr, hfr⟩ : ∃ fr, f.result = fr := ⟨_, rfl⟩
  obtain ⟨ls, hls⟩ : ∃ ls, f.blocks.length = ls := ⟨_, rfl⟩
  rw [hfp, hfr, hls]
  obtain ⟨bs, hbs⟩ : ∃ bs, f.blocks = bs := ⟨_, rfl⟩
  have HBK := hide (fun (W : World) (hW : Below w.heap.size w W) => (hi.2.2.1.keep (up hW hB) (fun _ h => h) : BlksV W (· < B) (.slice As f.blocks.length cs) f.blocks))
  rw [hls] at HBK hls40 hcs
  rw [hbs] at HBK hcode hls ⊢
  have HLS := hide hls
  have HCODE := hide hcode
  clear hks hes hlk hlb hfp hfr hi0 hcode hls hbs
  go_enter Try.func34, Try.ntmps34
  go_upto_region 1 with (fail)
  obtain ⟨w1, hw1⟩ : ∃ w1, w1 = (w.alloc (.cells #[.slice Ak lk ck, .slice Ab lb cb, .int .i64 fp, .int .i64 fr, .slice As ls cs] 30)).alloc (.cells #[.slice none 0 0, .slice none 0 0, .int .i64 0, .int .i64 0, .slice none 0 0] 30) := ⟨_, rfl⟩
  obtain ⟨h1, hh1⟩ : ∃ h1, w.heap.size = h1 := ⟨_, rfl⟩
  have HX1 := hide (show Box w1 h1 #[.slice Ak lk ck, .slice Ab lb cb, .int .i64 fp, .int .i64 fr, .slice As ls cs] 30 by rw [hw1, ← hh1]; exact (Box.new w _ _).alloc _)
  have HY1 := hide (show Box w1 (h1 + 1) #[.slice none 0 0, .slice none 0 0, .int .i64 0, .int .i64 0, .slice none 0 0] 30 by
    have t := Box.new (w.alloc (.cells #[.slice Ak lk ck, .slice Ab lb cb, .int .i64 fp, .int .i64 fr, .slice As ls cs] 30)) #[.slice none 0 0, .slice none 0 0, .int .i64 0, .int .i64 0, .slice none 0 0] 30
    rw [World.size_alloc, hh1] at t
    rw [hw1]
    exact t)
  have HB1 := hide (show Below w.heap.size w w1 by rw [hw1]; exact alloc2 w _ _)
  have w1s := HB1.out.size
  have HH1 := hide hh1
  rw [← hw1, hh1]
  clear hw1 hh1
  have lX1 := HX1.out.lt
  have lY1 := HY1.out.lt
  have HSK := hide (fun (W : World) (hW : Below w1.heap.size w1 W) => (show Sl W B .i64 Ak ks from by obtain ⟨A', c', e, -, -, h, -⟩ := (HSK.out W (HB1.out.trans (hW.mono HB1.out.size))).sl; injection e with e1 _ _; subst e1; exact h))
  have HSB := hide (fun (W : World) (hW : Below w1.heap.size w1 W) => (show Sl W B .i64 Ab es from by obtain ⟨A', c', e, -, -, h, -⟩ := (HSB.out W (HB1.out.trans (hW.mono HB1.out.size))).sl; injection e with e1 _ _; subst e1; exact h))
  have HKX := hide (fun (W : World) (hW : Below w1.heap.size w1 W) => (show W.cell? ⟨h1, 0, none⟩ = some (.slice Ak lk ck) ∧ W.cell? ⟨h1, 1, none⟩ = some (.slice Ab lb cb) ∧ W.cell? ⟨h1, 2, none⟩ = some (.int .i64 fp) ∧ W.cell? ⟨h1, 3, none⟩ = some (.int .i64 fr) from
    ⟨((HX1.out.below hW).cell 0 (v := .slice Ak lk ck) rfl).1, ((HX1.out.below hW).cell 1 (v := .slice Ab lb cb) rfl).1, ((HX1.out.below hW).cell 2 (v := .int .i64 fp) rfl).1, ((HX1.out.below hW).cell 3 (v := .int .i64 fr) rfl).1⟩))
  go_cut [3] from 8 to 20 (fun p wx => ∃ g A1 c1 A2 c2, p = .pointer (some ⟨g, 0, none⟩) ∧ w1.heap.size ≤ g ∧ SplC fp fr ks es w1.heap.size g (h1 + 1) (.slice A1 lk c1) (.slice A2 lb c2) (.slice none 0 0) [] w wx ∧ Below w1.heap.size w1 wx)
  case first =>
    have HEND := hide (fun (W : World) (g ga gb ca cc : Nat) (hg : w1.heap.size ≤ g) (hW : Below w1.heap.size w1 W) (hx : Box W g #[.slice none 0 0, .slice none 0 0, .int .i64 0, .int .i64 0, .slice none 0 0] 30) (ho1 : Ow W w1.heap.size 3 .i64 (.slice (some ⟨ga, 0, none⟩) lk ca) ks) (ho2 : Ow W w1.heap.size 3 .i64 (.slice (some ⟨gb, 0, none⟩) lb cc) es) =>
      And.intro (HKX.out (end5 W g (.slice (some ⟨ga, 0, none⟩) lk ca) (.slice (some ⟨gb, 0, none⟩) lb cc) (.int .i64 fp) (.int .i64 fr) (.slice none 0 0)) (end5_below hW hg))
      (show ∃ g' A1 c1 A2 c2, Value.pointer (some ⟨g, 0, none⟩) = .pointer (some ⟨g', 0, none⟩) ∧ w1.heap.size ≤ g' ∧ SplC fp fr ks es w1.heap.size g' (h1 + 1) (.slice A1 lk c1) (.slice A2 lb c2) (.slice none 0 0) [] w (end5 W g (.slice (some ⟨ga, 0, none⟩) lk ca) (.slice (some ⟨gb, 0, none⟩) lb cc) (.int .i64 fp) (.int .i64 fr) (.slice none 0 0)) ∧ Below w1.heap.size w1 (end5 W g (.slice (some ⟨ga, 0, none⟩) lk ca) (.slice (some ⟨gb, 0, none⟩) lb cc) (.int .i64 fp) (.int .i64 fr) (.slice none 0 0)) from
        ⟨g, _, _, _, _, rfl, hg, ⟨hx.end5, (end5_blk (by omega)).trans (HY1.out.below hW), ho1.end5 hx.tb, ho2.end5 hx.tb, ⟨OwC.nil _ _, fun p hp => (by cases hp), fun i j p p' h => by simp at h⟩, end5_below (HB1.out.trans (hW.mono HB1.out.size)) (by omega)⟩, end5_below hW hg⟩))
    refine wp_region_held_drew (S := (fun w' => w'.cell? ⟨h1, 0, none⟩ = some (.slice Ak lk ck) ∧ w'.cell? ⟨h1, 1, none⟩ = some (.slice Ab lb cb) ∧ w'.cell? ⟨h1, 2, none⟩ = some (.int .i64 fp) ∧ w'.cell? ⟨h1, 3, none⟩ = some (.int .i64 fr))) (by kernel_rfl) (HKX.out w1 (Below.refl _ _)) (fun hHeld => ?_)
    refine wpAnyH_take (i := 1) (v := ?_) rfl (by kernel_rfl) (by kernel_rfl) (by kernel_rfl) (fun _ _ _ h => h) (Or.inl ⟨by rfl, ?_⟩) (by assumption) ?_
    rotate_left
    focus
      intro w hSw
      try dsimp only at hSw
      go_simp
      try with_reducible rfl
    try simp only [List.getElem_toArray, List.getElem_cons_succ, List.getElem_cons_zero, Act.put, List.setIfInBounds_toArray, List.set_cons_zero, List.set_cons_succ]
    refine wpAnyH_take (i := 2) (v := ?_) rfl (by kernel_rfl) (by kernel_rfl) (by kernel_rfl) (fun _ _ _ h => h) (Or.inl ⟨by rfl, ?_⟩) (by assumption) ?_
    rotate_left
    focus
      intro w hSw
      try dsimp only at hSw
      go_simp
      try with_reducible rfl
    try simp only [List.getElem_toArray, List.getElem_cons_succ, List.getElem_cons_zero, Act.put, List.setIfInBounds_toArray, List.set_cons_zero, List.set_cons_succ]
    refine wpAnyH_take (i := 5) (v := ?_) rfl (by kernel_rfl) (by kernel_rfl) (by kernel_rfl) (fun _ _ _ h => h) (Or.inl ⟨by rfl, ?_⟩) (by assumption) ?_
    rotate_left
    focus
      intro w hSw
      try dsimp only at hSw
      go_simp
      try with_reducible rfl
    try simp only [List.getElem_toArray, List.getElem_cons_succ, List.getElem_cons_zero, Act.put, List.setIfInBounds_toArray, List.set_cons_zero, List.set_cons_succ]
    refine wpAnyH_take (i := 6) (v := ?_) rfl (by kernel_rfl) (by kernel_rfl) (by kernel_rfl) (fun _ _ _ h => h) (Or.inl ⟨by rfl, ?_⟩) (by assumption) ?_
    rotate_left
    focus
      intro w hSw
      try dsimp only at hSw
      go_simp
      try with_reducible rfl
    try simp only [List.getElem_toArray, List.getElem_cons_succ, List.getElem_cons_zero, Act.put, List.setIfInBounds_toArray, List.set_cons_zero, List.set_cons_succ]
    refine wpAnyH_take (i := 8) (v := ?_) rfl (by kernel_rfl) (by kernel_rfl) (by kernel_rfl) (fun _ _ _ h => h) (Or.inl ⟨by rfl, ?_⟩) (by assumption) ?_
    rotate_left
    focus
      intro w hSw
      try dsimp only at hSw
      go_simp
      try with_reducible rfl
    try simp only [List.getElem_toArray, List.getElem_cons_succ, List.getElem_cons_zero, Act.put, List.setIfInBounds_toArray, List.set_cons_zero, List.set_cons_succ]
    refine wpAnyH_take (i := 9) (v := ?_) rfl (by kernel_rfl) (by kernel_rfl) (by kernel_rfl) (fun _ _ _ h => h) (Or.inl ⟨by rfl, ?_⟩) (by assumption) ?_
    rotate_left
    focus
      intro w hSw
      try dsimp only at hSw
      go_simp
      try with_reducible rfl
    try simp only [List.getElem_toArray, List.getElem_cons_succ, List.getElem_cons_zero, Act.put, List.setIfInBounds_toArray, List.set_cons_zero, List.set_cons_succ]
    refine wpAnyH_take (i := 10) (v := ?_) rfl (by kernel_rfl) (by kernel_rfl) (by kernel_rfl) (fun _ _ _ h => h) (Or.inl ⟨by rfl, ?_⟩) (by assumption) ?_
    rotate_left
    focus
      intro w hSw
      try dsimp only at hSw
      go_simp
      try with_reducible rfl
    try simp only [List.getElem_toArray, List.getElem_cons_succ, List.getElem_cons_zero, Act.put, List.setIfInBounds_toArray, List.set_cons_zero, List.set_cons_succ]
    refine wpAnyH_take (i := 11) (v := ?_) rfl (by kernel_rfl) (by kernel_rfl) (by kernel_rfl) (fun _ _ _ h => h) (Or.inl ⟨by rfl, ?_⟩) (by assumption) ?_
    rotate_left
    focus
      intro w hSw
      try dsimp only at hSw
      go_simp
      try with_reducible rfl
    try simp only [List.getElem_toArray, List.getElem_cons_succ, List.getElem_cons_zero, Act.put, List.setIfInBounds_toArray, List.set_cons_zero, List.set_cons_succ]
    obtain ⟨w2, hw2⟩ : ∃ w2, w2 = w1.drew := ⟨_, rfl⟩
    have BE2 := hide (show Below w1.heap.size w1 w2 by rw [hw2]; exact below_drewN (Below.refl _ _) 1)
    try rw [← hw2] at hHeld
    try rw [← hw2]
    clear hw2
    refine wpAnyH_ready (rs := [0, 4, 13]) (by kernel_rfl) (by simp) ?_
    refine AllReadyH.cons rfl (fun K hK => ?_) (AllReadyH.cons rfl (fun K hK => ?_) (AllReadyH.cons rfl (fun K hK => ?_) AllReadyH.nil))
    · skip
      rw [if_pos (by rfl)]
      go_simp
      obtain ⟨Ha, hHa⟩ : ∃ H, w2.heap.size = H := ⟨_, rfl⟩
      obtain ⟨w3, hw3⟩ : ∃ wM, wM = w2.alloc (.cells #[] 3) := ⟨_, rfl⟩
      have DE3 := hide (show Below w2.heap.size w2 w3 by rw [hw3]; exact alloc1 w2 _)
      have BE3 := hide (BE2.out.trans (DE3.out.mono BE2.out.size))
      have BXa3 := hide (show Box w3 Ha #[] 3 by rw [hw3, ← hHa]; exact Box.new w2 _ _)
      have gHa : w1.heap.size ≤ Ha := by rw [← hHa]; exact BE2.out.size
      rw [← hw3, hHa]
      clear hw3
      refine hK.out _ _ (HKX.out w3 BE3.out) (fun hHeld => ?_)
      clear hK K
      try simp only [List.getElem_toArray, List.getElem_cons_succ, List.getElem_cons_zero, Act.put, List.setIfInBounds_toArray, List.set_cons_zero, List.set_cons_succ]
      refine wpAnyH_ready (rs := [3, 4, 13]) (by kernel_rfl) (by simp) ?_
      refine AllReadyH.cons rfl (fun K hK => ?_) (AllReadyH.cons rfl (fun K hK => ?_) (AllReadyH.cons rfl (fun K hK => ?_) AllReadyH.nil))
      · skip
        refine step_append_row13 w3 (by rfl) _ _ _ (by rfl) i0 _ Try.underlying27 HI.out iz0 iz1 iz2 rfl Ha (by rfl) BXa3.out B Ak lk ck ks (by rfl) HLK.out (HSK.out w3 BE3.out) (by omega) ?_
        intro ga ca w4 ho hg hat lga4
        have BE4 := hide (BE3.out.grown hg (by have := BE3.out.size; omega) (fun k hk => by injection hk; omega))
        have OA4 := hide (ho.lower gHa)
        clear ho hg hat
        refine hK.out _ _ (HKX.out w4 BE4.out) (fun hHeld => ?_)
        clear hK K
        try simp only [List.getElem_toArray, List.getElem_cons_succ, List.getElem_cons_zero, Act.put, List.setIfInBounds_toArray, List.set_cons_zero, List.set_cons_succ]
        refine wpAnyH_ready (rs := [4, 13]) (by kernel_rfl) (by simp) ?_
        refine AllReadyH.cons rfl (fun K hK => ?_) (AllReadyH.cons rfl (fun K hK => ?_) AllReadyH.nil)
        · skip
          rw [if_pos (by rfl)]
          go_simp
          obtain ⟨Hb, hHb⟩ : ∃ H, w4.heap.size = H := ⟨_, rfl⟩
          obtain ⟨w5, hw5⟩ : ∃ wM, wM = w4.alloc (.cells #[] 3) := ⟨_, rfl⟩
          have DE5 := hide (show Below w4.heap.size w4 w5 by rw [hw5]; exact alloc1 w4 _)
          have BE5 := hide (BE4.out.trans (DE5.out.mono BE4.out.size))
          have BXb5 := hide (show Box w5 Hb #[] 3 by rw [hw5, ← hHb]; exact Box.new w4 _ _)
          have gHb : w1.heap.size ≤ Hb := by rw [← hHb]; exact BE4.out.size
          have OA5 := hide (OA4.out.below DE5.out)
          have ngb : ga ≠ Hb := by have := lga4; omega
          have lga5 : ga < w5.heap.size := by have := DE5.out.size; have := lga4; omega
          rw [← hw5, hHb]
          clear hw5
          refine hK.out _ _ (HKX.out w5 BE5.out) (fun hHeld => ?_)
          clear hK K
          try simp only [List.getElem_toArray, List.getElem_cons_succ, List.getElem_cons_zero, Act.put, List.setIfInBounds_toArray, List.set_cons_zero, List.set_cons_succ]
          refine wpAnyH_ready (rs := [7, 13]) (by kernel_rfl) (by simp) ?_
          refine AllReadyH.cons rfl (fun K hK => ?_) (AllReadyH.cons rfl (fun K hK => ?_) AllReadyH.nil)
          · skip
            refine step_append_row13 w5 (by rfl) _ _ _ (by rfl) i0 _ Try.underlying27 HI.out iz0 iz1 iz2 rfl Hb (by rfl) BXb5.out B Ab lb cb es (by rfl) HLB.out (HSB.out w5 BE5.out) (by omega) ?_
            intro gb cc w6 ho hg hat lgb6
            have BE6 := hide (BE5.out.grown hg (by have := BE5.out.size; omega) (fun k hk => by injection hk; omega))
            have OB6 := hide (ho.lower gHb)
            have OA6 := hide (OA5.out.kept' fun x hx => hg.block x (OA5.out.tbI hx).lt (fun e => by simp only [Value.ownBlock, Option.some.injEq] at hx e; omega))
            have lga6 : ga < w6.heap.size := by have := hg.size; have := lga5; omega
            clear ho hg hat
            refine hK.out _ _ (HKX.out w6 BE6.out) (fun hHeld => ?_)
            clear hK K
            try simp only [List.getElem_toArray, List.getElem_cons_succ, List.getElem_cons_zero, Act.put, List.setIfInBounds_toArray, List.set_cons_zero, List.set_cons_succ]
            refine wpAnyH_take (i := 12) (v := ?_) rfl (by kernel_rfl) (by kernel_rfl) (by kernel_rfl) (fun _ _ _ h => h) (Or.inl ⟨by rfl, ?_⟩) (by assumption) ?_
            rotate_left
            focus
              intro w hSw
              try dsimp only at hSw
              go_simp
              try with_reducible rfl
            try simp only [List.getElem_toArray, List.getElem_cons_succ, List.getElem_cons_zero, Act.put, List.setIfInBounds_toArray, List.set_cons_zero, List.set_cons_succ]
            refine wpAnyH_ready (rs := [13]) (by kernel_rfl) (by simp) ?_
            refine AllReadyH.cons rfl (fun K hK => ?_) AllReadyH.nil
            · skip
              rw [if_pos (by rfl)]
              go_simp
              obtain ⟨HL, hHL⟩ : ∃ H, w6.heap.size = H := ⟨_, rfl⟩
              obtain ⟨w7, hw7⟩ : ∃ wM, wM = w6.alloc (.cells #[.slice none 0 0, .slice none 0 0, .int .i64 0, .int .i64 0, .slice none 0 0] 30) := ⟨_, rfl⟩
              have DE7 := hide (show Below w6.heap.size w6 w7 by rw [hw7]; exact alloc1 w6 _)
              have BE7 := hide (BE6.out.trans (DE7.out.mono BE6.out.size))
              have BXL7 := hide (show Box w7 HL #[.slice none 0 0, .slice none 0 0, .int .i64 0, .int .i64 0, .slice none 0 0] 30 by rw [hw7, ← hHL]; exact Box.new w6 _ _)
              have gHL : w1.heap.size ≤ HL := by rw [← hHL]; exact BE6.out.size
              have OA7 := hide (OA6.out.below DE7.out)
              have lga7 : ga < w7.heap.size := by have := DE7.out.size; have := lga6; omega
              have OB7 := hide (OB6.out.below DE7.out)
              rw [← hw7, hHL]
              clear hw7
              refine hK.out _ _ (HKX.out w7 BE7.out) (fun hHeld => ?_)
              clear hK K
              try simp only [List.getElem_toArray, List.getElem_cons_succ, List.getElem_cons_zero, Act.put, List.setIfInBounds_toArray, List.set_cons_zero, List.set_cons_succ]
              obtain ⟨s0, z0⟩ := BXL7.out.cell 0 (v := .slice none 0 0) rfl
              obtain ⟨s1, z1⟩ := BXL7.out.cell 1 (v := .slice none 0 0) rfl
              obtain ⟨s2, z2⟩ := BXL7.out.cell 2 (v := .int .i64 0) rfl
              obtain ⟨s3, z3⟩ := BXL7.out.cell 3 (v := .int .i64 0) rfl
              obtain ⟨s4, z4⟩ := BXL7.out.cell 4 (v := .slice none 0 0) rfl
              have lHL := BXL7.out.lt
              refine wpAnyH_ready (rs := [14]) (by kernel_rfl) (by simp) ?_
              refine AllReadyH.cons rfl (fun K hK => ?_) AllReadyH.nil
              rw [if_pos (by rfl)]
              go_simp
              have HEN := hide (HEND.out w7 HL _ _ _ _ gHL BE7.out BXL7.out OA7.out OB7.out)
              refine hK.out _ _ HEN.out.1 (fun hHeld => ?_)
              clear hK K
              try simp only [List.getElem_toArray, List.getElem_cons_succ, List.getElem_cons_zero, Act.put, List.setIfInBounds_toArray, List.set_cons_zero, List.set_cons_succ]
              refine wpAnyH_done (by kernel_rfl) ?_ _
              go_wp2_with fail
              go_meet
              case rel => exact HEN.out.2
          · skip
            rw [if_pos (by rfl)]
            go_simp
            obtain ⟨HL, hHL⟩ : ∃ H, w5.heap.size = H := ⟨_, rfl⟩
            obtain ⟨w8, hw8⟩ : ∃ wM, wM = w5.alloc (.cells #[.slice none 0 0, .slice none 0 0, .int .i64 0, .int .i64 0, .slice none 0 0] 30) := ⟨_, rfl⟩
            have DE8 := hide (show Below w5.heap.size w5 w8 by rw [hw8]; exact alloc1 w5 _)
            have BE8 := hide (BE5.out.trans (DE8.out.mono BE5.out.size))
            have BXL8 := hide (show Box w8 HL #[.slice none 0 0, .slice none 0 0, .int .i64 0, .int .i64 0, .slice none 0 0] 30 by rw [hw8, ← hHL]; exact Box.new w5 _ _)
            have gHL : w1.heap.size ≤ HL := by rw [← hHL]; exact BE5.out.size
            have BXb8 := hide (BXb5.out.below DE8.out)
            have OA8 := hide (OA5.out.below DE8.out)
            have lga8 : ga < w8.heap.size := by have := DE8.out.size; have := lga5; omega
            rw [← hw8, hHL]
            clear hw8
            refine hK.out _ _ (HKX.out w8 BE8.out) (fun hHeld => ?_)
            clear hK K
            try simp only [List.getElem_toArray, List.getElem_cons_succ, List.getElem_cons_zero, Act.put, List.setIfInBounds_toArray, List.set_cons_zero, List.set_cons_succ]
            refine wpAnyH_ready (rs := [7]) (by kernel_rfl) (by simp) ?_
            refine AllReadyH.cons rfl (fun K hK => ?_) AllReadyH.nil
            · skip
              refine step_append_row13 w8 (by rfl) _ _ _ (by rfl) i0 _ Try.underlying27 HI.out iz0 iz1 iz2 rfl Hb (by rfl) BXb8.out B Ab lb cb es (by rfl) HLB.out (HSB.out w8 BE8.out) (by omega) ?_
              intro gb cc w9 ho hg hat lgb9
              have BE9 := hide (BE8.out.grown hg (by have := BE8.out.size; omega) (fun k hk => by injection hk; omega))
              have OB9 := hide (ho.lower gHb)
              have OA9 := hide (OA8.out.kept' fun x hx => hg.block x (OA8.out.tbI hx).lt (fun e => by simp only [Value.ownBlock, Option.some.injEq] at hx e; omega))
              have lga9 : ga < w9.heap.size := by have := hg.size; have := lga8; omega
              have BXL9 := hide (show Box w9 HL #[.slice none 0 0, .slice none 0 0, .int .i64 0, .int .i64 0, .slice none 0 0] 30 from (hg.block HL BXL8.out.lt (fun e => tb_ne BXL8.out.tb BXb8.out.tb (by decide) (by injection e))).trans BXL8.out)
              clear ho hg hat
              refine hK.out _ _ (HKX.out w9 BE9.out) (fun hHeld => ?_)
              clear hK K
              try simp only [List.getElem_toArray, List.getElem_cons_succ, List.getElem_cons_zero, Act.put, List.setIfInBounds_toArray, List.set_cons_zero, List.set_cons_succ]
              refine wpAnyH_take (i := 12) (v := ?_) rfl (by kernel_rfl) (by kernel_rfl) (by kernel_rfl) (fun _ _ _ h => h) (Or.inl ⟨by rfl, ?_⟩) (by assumption) ?_
              rotate_left
              focus
                intro w hSw
                try dsimp only at hSw
                go_simp
                try with_reducible rfl
              try simp only [List.getElem_toArray, List.getElem_cons_succ, List.getElem_cons_zero, Act.put, List.setIfInBounds_toArray, List.set_cons_zero, List.set_cons_succ]
              obtain ⟨s0, z0⟩ := BXL9.out.cell 0 (v := .slice none 0 0) rfl
              obtain ⟨s1, z1⟩ := BXL9.out.cell 1 (v := .slice none 0 0) rfl
              obtain ⟨s2, z2⟩ := BXL9.out.cell 2 (v := .int .i64 0) rfl
              obtain ⟨s3, z3⟩ := BXL9.out.cell 3 (v := .int .i64 0) rfl
              obtain ⟨s4, z4⟩ := BXL9.out.cell 4 (v := .slice none 0 0) rfl
              have lHL := BXL9.out.lt
              refine wpAnyH_ready (rs := [14]) (by kernel_rfl) (by simp) ?_
              refine AllReadyH.cons rfl (fun K hK => ?_) AllReadyH.nil
              rw [if_pos (by rfl)]
              go_simp
              have HEN := hide (HEND.out w9 HL _ _ _ _ gHL BE9.out BXL9.out OA9.out OB9.out)
              refine hK.out _ _ HEN.out.1 (fun hHeld => ?_)
              clear hK K
              try simp only [List.getElem_toArray, List.getElem_cons_succ, List.getElem_cons_zero, Act.put, List.setIfInBounds_toArray, List.set_cons_zero, List.set_cons_succ]
              refine wpAnyH_done (by kernel_rfl) ?_ _
              go_wp2_with fail
              go_meet
              case rel => exact HEN.out.2
        · skip
          rw [if_pos (by rfl)]
          go_simp
          obtain ⟨HL, hHL⟩ : ∃ H, w4.heap.size = H := ⟨_, rfl⟩
          obtain ⟨w10, hw10⟩ : ∃ wM, wM = w4.alloc (.cells #[.slice none 0 0, .slice none 0 0, .int .i64 0, .int .i64 0, .slice none 0 0] 30) := ⟨_, rfl⟩
          have DE10 := hide (show Below w4.heap.size w4 w10 by rw [hw10]; exact alloc1 w4 _)
          have BE10 := hide (BE4.out.trans (DE10.out.mono BE4.out.size))
          have BXL10 := hide (show Box w10 HL #[.slice none 0 0, .slice none 0 0, .int .i64 0, .int .i64 0, .slice none 0 0] 30 by rw [hw10, ← hHL]; exact Box.new w4 _ _)
          have gHL : w1.heap.size ≤ HL := by rw [← hHL]; exact BE4.out.size
          have OA10 := hide (OA4.out.below DE10.out)
          have lga10 : ga < w10.heap.size := by have := DE10.out.size; have := lga4; omega
          rw [← hw10, hHL]
          clear hw10
          refine hK.out _ _ (HKX.out w10 BE10.out) (fun hHeld => ?_)
          clear hK K
          try simp only [List.getElem_toArray, List.getElem_cons_succ, List.getElem_cons_zero, Act.put, List.setIfInBounds_toArray, List.set_cons_zero, List.set_cons_succ]
          refine wpAnyH_ready (rs := [4]) (by kernel_rfl) (by simp) ?_
          refine AllReadyH.cons rfl (fun K hK => ?_) AllReadyH.nil
          · skip
            rw [if_pos (by rfl)]
            go_simp
            obtain ⟨Hb, hHb⟩ : ∃ H, w10.heap.size = H := ⟨_, rfl⟩
            obtain ⟨w11, hw11⟩ : ∃ wM, wM = w10.alloc (.cells #[] 3) := ⟨_, rfl⟩
            have DE11 := hide (show Below w10.heap.size w10 w11 by rw [hw11]; exact alloc1 w10 _)
            have BE11 := hide (BE10.out.trans (DE11.out.mono BE10.out.size))
            have BXb11 := hide (show Box w11 Hb #[] 3 by rw [hw11, ← hHb]; exact Box.new w10 _ _)
            have gHb : w1.heap.size ≤ Hb := by rw [← hHb]; exact BE10.out.size
            have BXL11 := hide (BXL10.out.below DE11.out)
            have OA11 := hide (OA10.out.below DE11.out)
            have ngb : ga ≠ Hb := by have := lga10; omega
            have lga11 : ga < w11.heap.size := by have := DE11.out.size; have := lga10; omega
            rw [← hw11, hHb]
            clear hw11
            refine hK.out _ _ (HKX.out w11 BE11.out) (fun hHeld => ?_)
            clear hK K
            try simp only [List.getElem_toArray, List.getElem_cons_succ, List.getElem_cons_zero, Act.put, List.setIfInBounds_toArray, List.set_cons_zero, List.set_cons_succ]
            refine wpAnyH_ready (rs := [7]) (by kernel_rfl) (by simp) ?_
            refine AllReadyH.cons rfl (fun K hK => ?_) AllReadyH.nil
            · skip
              refine step_append_row13 w11 (by rfl) _ _ _ (by rfl) i0 _ Try.underlying27 HI.out iz0 iz1 iz2 rfl Hb (by rfl) BXb11.out B Ab lb cb es (by rfl) HLB.out (HSB.out w11 BE11.out) (by omega) ?_
              intro gb cc w12 ho hg hat lgb12
              have BE12 := hide (BE11.out.grown hg (by have := BE11.out.size; omega) (fun k hk => by injection hk; omega))
              have OB12 := hide (ho.lower gHb)
              have OA12 := hide (OA11.out.kept' fun x hx => hg.block x (OA11.out.tbI hx).lt (fun e => by simp only [Value.ownBlock, Option.some.injEq] at hx e; omega))
              have lga12 : ga < w12.heap.size := by have := hg.size; have := lga11; omega
              have BXL12 := hide (show Box w12 HL #[.slice none 0 0, .slice none 0 0, .int .i64 0, .int .i64 0, .slice none 0 0] 30 from (hg.block HL BXL11.out.lt (fun e => tb_ne BXL11.out.tb BXb11.out.tb (by decide) (by injection e))).trans BXL11.out)
              clear ho hg hat
              refine hK.out _ _ (HKX.out w12 BE12.out) (fun hHeld => ?_)
              clear hK K
              try simp only [List.getElem_toArray, List.getElem_cons_succ, List.getElem_cons_zero, Act.put, List.setIfInBounds_toArray, List.set_cons_zero, List.set_cons_succ]
              refine wpAnyH_take (i := 12) (v := ?_) rfl (by kernel_rfl) (by kernel_rfl) (by kernel_rfl) (fun _ _ _ h => h) (Or.inl ⟨by rfl, ?_⟩) (by assumption) ?_
              rotate_left
              focus
                intro w hSw
                try dsimp only at hSw
                go_simp
                try with_reducible rfl
              try simp only [List.getElem_toArray, List.getElem_cons_succ, List.getElem_cons_zero, Act.put, List.setIfInBounds_toArray, List.set_cons_zero, List.set_cons_succ]
              obtain ⟨s0, z0⟩ := BXL12.out.cell 0 (v := .slice none 0 0) rfl
              obtain ⟨s1, z1⟩ := BXL12.out.cell 1 (v := .slice none 0 0) rfl
              obtain ⟨s2, z2⟩ := BXL12.out.cell 2 (v := .int .i64 0) rfl
              obtain ⟨s3, z3⟩ := BXL12.out.cell 3 (v := .int .i64 0) rfl
              obtain ⟨s4, z4⟩ := BXL12.out.cell 4 (v := .slice none 0 0) rfl
              have lHL := BXL12.out.lt
              refine wpAnyH_ready (rs := [14]) (by kernel_rfl) (by simp) ?_
              refine AllReadyH.cons rfl (fun K hK => ?_) AllReadyH.nil
              rw [if_pos (by rfl)]
              go_simp
              have HEN := hide (HEND.out w12 HL _ _ _ _ gHL BE12.out BXL12.out OA12.out OB12.out)
              refine hK.out _ _ HEN.out.1 (fun hHeld => ?_)
              clear hK K
              try simp only [List.getElem_toArray, List.getElem_cons_succ, List.getElem_cons_zero, Act.put, List.setIfInBounds_toArray, List.set_cons_zero, List.set_cons_succ]
              refine wpAnyH_done (by kernel_rfl) ?_ _
              go_wp2_with fail
              go_meet
              case rel => exact HEN.out.2
      · skip
        rw [if_pos (by rfl)]
        go_simp
        obtain ⟨Hb, hHb⟩ : ∃ H, w3.heap.size = H := ⟨_, rfl⟩
        obtain ⟨w13, hw13⟩ : ∃ wM, wM = w3.alloc (.cells #[] 3) := ⟨_, rfl⟩
        have DE13 := hide (show Below w3.heap.size w3 w13 by rw [hw13]; exact alloc1 w3 _)
        have BE13 := hide (BE3.out.trans (DE13.out.mono BE3.out.size))
        have BXb13 := hide (show Box w13 Hb #[] 3 by rw [hw13, ← hHb]; exact Box.new w3 _ _)
        have gHb : w1.heap.size ≤ Hb := by rw [← hHb]; exact BE3.out.size
        have BXa13 := hide (BXa3.out.below DE13.out)
        have nab : Ha ≠ Hb := by have := BXa3.out.lt; omega
        rw [← hw13, hHb]
        clear hw13
        refine hK.out _ _ (HKX.out w13 BE13.out) (fun hHeld => ?_)
        clear hK K
        try simp only [List.getElem_toArray, List.getElem_cons_succ, List.getElem_cons_zero, Act.put, List.setIfInBounds_toArray, List.set_cons_zero, List.set_cons_succ]
        refine wpAnyH_ready (rs := [3, 13]) (by kernel_rfl) (by simp) ?_
        refine AllReadyH.cons rfl (fun K hK => ?_) (AllReadyH.cons rfl (fun K hK => ?_) AllReadyH.nil)
        · skip
          refine step_append_row13 w13 (by rfl) _ _ _ (by rfl) i0 _ Try.underlying27 HI.out iz0 iz1 iz2 rfl Ha (by rfl) BXa13.out B Ak lk ck ks (by rfl) HLK.out (HSK.out w13 BE13.out) (by omega) ?_
          intro ga ca w14 ho hg hat lga14
          have BE14 := hide (BE13.out.grown hg (by have := BE13.out.size; omega) (fun k hk => by injection hk; omega))
          have OA14 := hide (ho.lower gHa)
          have BXb14 := hide (show Box w14 Hb #[] 3 from (hg.block Hb BXb13.out.lt (fun e => by injection e; omega)).trans BXb13.out)
          have ngb : ga ≠ Hb := by have := BXb13.out.lt; rcases hat with h | h <;> omega
          clear ho hg hat
          refine hK.out _ _ (HKX.out w14 BE14.out) (fun hHeld => ?_)
          clear hK K
          try simp only [List.getElem_toArray, List.getElem_cons_succ, List.getElem_cons_zero, Act.put, List.setIfInBounds_toArray, List.set_cons_zero, List.set_cons_succ]
          refine wpAnyH_ready (rs := [7, 13]) (by kernel_rfl) (by simp) ?_
          refine AllReadyH.cons rfl (fun K hK => ?_) (AllReadyH.cons rfl (fun K hK => ?_) AllReadyH.nil)
          · skip
            refine step_append_row13 w14 (by rfl) _ _ _ (by rfl) i0 _ Try.underlying27 HI.out iz0 iz1 iz2 rfl Hb (by rfl) BXb14.out B Ab lb cb es (by rfl) HLB.out (HSB.out w14 BE14.out) (by omega) ?_
            intro gb cc w15 ho hg hat lgb15
            have BE15 := hide (BE14.out.grown hg (by have := BE14.out.size; omega) (fun k hk => by injection hk; omega))
            have OB15 := hide (ho.lower gHb)
            have OA15 := hide (OA14.out.kept' fun x hx => hg.block x (OA14.out.tbI hx).lt (fun e => by simp only [Value.ownBlock, Option.some.injEq] at hx e; omega))
            have lga15 : ga < w15.heap.size := by have := hg.size; have := lga14; omega
            clear ho hg hat
            refine hK.out _ _ (HKX.out w15 BE15.out) (fun hHeld => ?_)
            clear hK K
            try simp only [List.getElem_toArray, List.getElem_cons_succ, List.getElem_cons_zero, Act.put, List.setIfInBounds_toArray, List.set_cons_zero, List.set_cons_succ]
            refine wpAnyH_take (i := 12) (v := ?_) rfl (by kernel_rfl) (by kernel_rfl) (by kernel_rfl) (fun _ _ _ h => h) (Or.inl ⟨by rfl, ?_⟩) (by assumption) ?_
            rotate_left
            focus
              intro w hSw
              try dsimp only at hSw
              go_simp
              try with_reducible rfl
            try simp only [List.getElem_toArray, List.getElem_cons_succ, List.getElem_cons_zero, Act.put, List.setIfInBounds_toArray, List.set_cons_zero, List.set_cons_succ]
            refine wpAnyH_ready (rs := [13]) (by kernel_rfl) (by simp) ?_
            refine AllReadyH.cons rfl (fun K hK => ?_) AllReadyH.nil
            · skip
              rw [if_pos (by rfl)]
              go_simp
              obtain ⟨HL, hHL⟩ : ∃ H, w15.heap.size = H := ⟨_, rfl⟩
              obtain ⟨w16, hw16⟩ : ∃ wM, wM = w15.alloc (.cells #[.slice none 0 0, .slice none 0 0, .int .i64 0, .int .i64 0, .slice none 0 0] 30) := ⟨_, rfl⟩
              have DE16 := hide (show Below w15.heap.size w15 w16 by rw [hw16]; exact alloc1 w15 _)
              have BE16 := hide (BE15.out.trans (DE16.out.mono BE15.out.size))
              have BXL16 := hide (show Box w16 HL #[.slice none 0 0, .slice none 0 0, .int .i64 0, .int .i64 0, .slice none 0 0] 30 by rw [hw16, ← hHL]; exact Box.new w15 _ _)
              have gHL : w1.heap.size ≤ HL := by rw [← hHL]; exact BE15.out.size
              have OA16 := hide (OA15.out.below DE16.out)
              have lga16 : ga < w16.heap.size := by have := DE16.out.size; have := lga15; omega
              have OB16 := hide (OB15.out.below DE16.out)
              rw [← hw16, hHL]
              clear hw16
              refine hK.out _ _ (HKX.out w16 BE16.out) (fun hHeld => ?_)
              clear hK K
              try simp only [List.getElem_toArray, List.getElem_cons_succ, List.getElem_cons_zero, Act.put, List.setIfInBounds_toArray, List.set_cons_zero, List.set_cons_succ]
              obtain ⟨s0, z0⟩ := BXL16.out.cell 0 (v := .slice none 0 0) rfl
              obtain ⟨s1, z1⟩ := BXL16.out.cell 1 (v := .slice none 0 0) rfl
              obtain ⟨s2, z2⟩ := BXL16.out.cell 2 (v := .int .i64 0) rfl
              obtain ⟨s3, z3⟩ := BXL16.out.cell 3 (v := .int .i64 0) rfl
              obtain ⟨s4, z4⟩ := BXL16.out.cell 4 (v := .slice none 0 0) rfl
              have lHL := BXL16.out.lt
              refine wpAnyH_ready (rs := [14]) (by kernel_rfl) (by simp) ?_
              refine AllReadyH.cons rfl (fun K hK => ?_) AllReadyH.nil
              rw [if_pos (by rfl)]
              go_simp
              have HEN := hide (HEND.out w16 HL _ _ _ _ gHL BE16.out BXL16.out OA16.out OB16.out)
              refine hK.out _ _ HEN.out.1 (fun hHeld => ?_)
              clear hK K
              try simp only [List.getElem_toArray, List.getElem_cons_succ, List.getElem_cons_zero, Act.put, List.setIfInBounds_toArray, List.set_cons_zero, List.set_cons_succ]
              refine wpAnyH_done (by kernel_rfl) ?_ _
              go_wp2_with fail
              go_meet
              case rel => exact HEN.out.2
          · skip
            rw [if_pos (by rfl)]
            go_simp
            obtain ⟨HL, hHL⟩ : ∃ H, w14.heap.size = H := ⟨_, rfl⟩
            obtain ⟨w17, hw17⟩ : ∃ wM, wM = w14.alloc (.cells #[.slice none 0 0, .slice none 0 0, .int .i64 0, .int .i64 0, .slice none 0 0] 30) := ⟨_, rfl⟩
            have DE17 := hide (show Below w14.heap.size w14 w17 by rw [hw17]; exact alloc1 w14 _)
            have BE17 := hide (BE14.out.trans (DE17.out.mono BE14.out.size))
            have BXL17 := hide (show Box w17 HL #[.slice none 0 0, .slice none 0 0, .int .i64 0, .int .i64 0, .slice none 0 0] 30 by rw [hw17, ← hHL]; exact Box.new w14 _ _)
            have gHL : w1.heap.size ≤ HL := by rw [← hHL]; exact BE14.out.size
            have BXb17 := hide (BXb14.out.below DE17.out)
            have OA17 := hide (OA14.out.below DE17.out)
            have lga17 : ga < w17.heap.size := by have := DE17.out.size; have := lga14; omega
            rw [← hw17, hHL]
            clear hw17
            refine hK.out _ _ (HKX.out w17 BE17.out) (fun hHeld => ?_)
            clear hK K
            try simp only [List.getElem_toArray, List.getElem_cons_succ, List.getElem_cons_zero, Act.put, List.setIfInBounds_toArray, List.set_cons_zero, List.set_cons_succ]
            refine wpAnyH_ready (rs := [7]) (by kernel_rfl) (by simp) ?_
            refine AllReadyH.cons rfl (fun K hK => ?_) AllReadyH.nil
            · skip
              refine step_append_row13 w17 (by rfl) _ _ _ (by rfl) i0 _ Try.underlying27 HI.out iz0 iz1 iz2 rfl Hb (by rfl) BXb17.out B Ab lb cb es (by rfl) HLB.out (HSB.out w17 BE17.out) (by omega) ?_
              intro gb cc w18 ho hg hat lgb18
              have BE18 := hide (BE17.out.grown hg (by have := BE17.out.size; omega) (fun k hk => by injection hk; omega))
              have OB18 := hide (ho.lower gHb)
              have OA18 := hide (OA17.out.kept' fun x hx => hg.block x (OA17.out.tbI hx).lt (fun e => by simp only [Value.ownBlock, Option.some.injEq] at hx e; omega))
              have lga18 : ga < w18.heap.size := by have := hg.size; have := lga17; omega
              have BXL18 := hide (show Box w18 HL #[.slice none 0 0, .slice none 0 0, .int .i64 0, .int .i64 0, .slice none 0 0] 30 from (hg.block HL BXL17.out.lt (fun e => tb_ne BXL17.out.tb BXb17.out.tb (by decide) (by injection e))).trans BXL17.out)
              clear ho hg hat
              refine hK.out _ _ (HKX.out w18 BE18.out) (fun hHeld => ?_)
              clear hK K
              try simp only [List.getElem_toArray, List.getElem_cons_succ, List.getElem_cons_zero, Act.put, List.setIfInBounds_toArray, List.set_cons_zero, List.set_cons_succ]
              refine wpAnyH_take (i := 12) (v := ?_) rfl (by kernel_rfl) (by kernel_rfl) (by kernel_rfl) (fun _ _ _ h => h) (Or.inl ⟨by rfl, ?_⟩) (by assumption) ?_
              rotate_left
              focus
                intro w hSw
                try dsimp only at hSw
                go_simp
                try with_reducible rfl
              try simp only [List.getElem_toArray, List.getElem_cons_succ, List.getElem_cons_zero, Act.put, List.setIfInBounds_toArray, List.set_cons_zero, List.set_cons_succ]
              obtain ⟨s0, z0⟩ := BXL18.out.cell 0 (v := .slice none 0 0) rfl
              obtain ⟨s1, z1⟩ := BXL18.out.cell 1 (v := .slice none 0 0) rfl
              obtain ⟨s2, z2⟩ := BXL18.out.cell 2 (v := .int .i64 0) rfl
              obtain ⟨s3, z3⟩ := BXL18.out.cell 3 (v := .int .i64 0) rfl
              obtain ⟨s4, z4⟩ := BXL18.out.cell 4 (v := .slice none 0 0) rfl
              have lHL := BXL18.out.lt
              refine wpAnyH_ready (rs := [14]) (by kernel_rfl) (by simp) ?_
              refine AllReadyH.cons rfl (fun K hK => ?_) AllReadyH.nil
              rw [if_pos (by rfl)]
              go_simp
              have HEN := hide (HEND.out w18 HL _ _ _ _ gHL BE18.out BXL18.out OA18.out OB18.out)
              refine hK.out _ _ HEN.out.1 (fun hHeld => ?_)
              clear hK K
              try simp only [List.getElem_toArray, List.getElem_cons_succ, List.getElem_cons_zero, Act.put, List.setIfInBounds_toArray, List.set_cons_zero, List.set_cons_succ]
              refine wpAnyH_done (by kernel_rfl) ?_ _
              go_wp2_with fail
              go_meet
              case rel => exact HEN.out.2
        · skip
          rw [if_pos (by rfl)]
          go_simp
          obtain ⟨HL, hHL⟩ : ∃ H, w13.heap.size = H := ⟨_, rfl⟩
          obtain ⟨w19, hw19⟩ : ∃ wM, wM = w13.alloc (.cells #[.slice none 0 0, .slice none 0 0, .int .i64 0, .int .i64 0, .slice none 0 0] 30) := ⟨_, rfl⟩
          have DE19 := hide (show Below w13.heap.size w13 w19 by rw [hw19]; exact alloc1 w13 _)
          have BE19 := hide (BE13.out.trans (DE19.out.mono BE13.out.size))
          have BXL19 := hide (show Box w19 HL #[.slice none 0 0, .slice none 0 0, .int .i64 0, .int .i64 0, .slice none 0 0] 30 by rw [hw19, ← hHL]; exact Box.new w13 _ _)
          have gHL : w1.heap.size ≤ HL := by rw [← hHL]; exact BE13.out.size
          have BXa19 := hide (BXa13.out.below DE19.out)
          have BXb19 := hide (BXb13.out.below DE19.out)
          rw [← hw19, hHL]
          clear hw19
          refine hK.out _ _ (HKX.out w19 BE19.out) (fun hHeld => ?_)
          clear hK K
          try simp only [List.getElem_toArray, List.getElem_cons_succ, List.getElem_cons_zero, Act.put, List.setIfInBounds_toArray, List.set_cons_zero, List.set_cons_succ]
          refine wpAnyH_ready (rs := [3]) (by kernel_rfl) (by simp) ?_
          refine AllReadyH.cons rfl (fun K hK => ?_) AllReadyH.nil
          · skip
            refine step_append_row13 w19 (by rfl) _ _ _ (by rfl) i0 _ Try.underlying27 HI.out iz0 iz1 iz2 rfl Ha (by rfl) BXa19.out B Ak lk ck ks (by rfl) HLK.out (HSK.out w19 BE19.out) (by omega) ?_
            intro ga ca w20 ho hg hat lga20
            have BE20 := hide (BE19.out.grown hg (by have := BE19.out.size; omega) (fun k hk => by injection hk; omega))
            have OA20 := hide (ho.lower gHa)
            have BXb20 := hide (show Box w20 Hb #[] 3 from (hg.block Hb BXb19.out.lt (fun e => by injection e; omega)).trans BXb19.out)
            have ngb : ga ≠ Hb := by have := BXb19.out.lt; rcases hat with h | h <;> omega
            have BXL20 := hide (show Box w20 HL #[.slice none 0 0, .slice none 0 0, .int .i64 0, .int .i64 0, .slice none 0 0] 30 from (hg.block HL BXL19.out.lt (fun e => tb_ne BXL19.out.tb BXa19.out.tb (by decide) (by injection e))).trans BXL19.out)
            clear ho hg hat
            refine hK.out _ _ (HKX.out w20 BE20.out) (fun hHeld => ?_)
            clear hK K
            try simp only [List.getElem_toArray, List.getElem_cons_succ, List.getElem_cons_zero, Act.put, List.setIfInBounds_toArray, List.set_cons_zero, List.set_cons_succ]
            refine wpAnyH_ready (rs := [7]) (by kernel_rfl) (by simp) ?_
            refine AllReadyH.cons rfl (fun K hK => ?_) AllReadyH.nil
            · skip
              refine step_append_row13 w20 (by rfl) _ _ _ (by rfl) i0 _ Try.underlying27 HI.out iz0 iz1 iz2 rfl Hb (by rfl) BXb20.out B Ab lb cb es (by rfl) HLB.out (HSB.out w20 BE20.out) (by omega) ?_
              intro gb cc w21 ho hg hat lgb21
              have BE21 := hide (BE20.out.grown hg (by have := BE20.out.size; omega) (fun k hk => by injection hk; omega))
              have OB21 := hide (ho.lower gHb)
              have OA21 := hide (OA20.out.kept' fun x hx => hg.block x (OA20.out.tbI hx).lt (fun e => by simp only [Value.ownBlock, Option.some.injEq] at hx e; omega))
              have lga21 : ga < w21.heap.size := by have := hg.size; have := lga20; omega
              have BXL21 := hide (show Box w21 HL #[.slice none 0 0, .slice none 0 0, .int .i64 0, .int .i64 0, .slice none 0 0] 30 from (hg.block HL BXL20.out.lt (fun e => tb_ne BXL20.out.tb BXb20.out.tb (by decide) (by injection e))).trans BXL20.out)
              clear ho hg hat
              refine hK.out _ _ (HKX.out w21 BE21.out) (fun hHeld => ?_)
              clear hK K
              try simp only [List.getElem_toArray, List.getElem_cons_succ, List.getElem_cons_zero, Act.put, List.setIfInBounds_toArray, List.set_cons_zero, List.set_cons_succ]
              refine wpAnyH_take (i := 12) (v := ?_) rfl (by kernel_rfl) (by kernel_rfl) (by kernel_rfl) (fun _ _ _ h => h) (Or.inl ⟨by rfl, ?_⟩) (by assumption) ?_
              rotate_left
              focus
                intro w hSw
                try dsimp only at hSw
                go_simp
                try with_reducible rfl
              try simp only [List.getElem_toArray, List.getElem_cons_succ, List.getElem_cons_zero, Act.put, List.setIfInBounds_toArray, List.set_cons_zero, List.set_cons_succ]
              obtain ⟨s0, z0⟩ := BXL21.out.cell 0 (v := .slice none 0 0) rfl
              obtain ⟨s1, z1⟩ := BXL21.out.cell 1 (v := .slice none 0 0) rfl
              obtain ⟨s2, z2⟩ := BXL21.out.cell 2 (v := .int .i64 0) rfl
              obtain ⟨s3, z3⟩ := BXL21.out.cell 3 (v := .int .i64 0) rfl
              obtain ⟨s4, z4⟩ := BXL21.out.cell 4 (v := .slice none 0 0) rfl
              have lHL := BXL21.out.lt
              refine wpAnyH_ready (rs := [14]) (by kernel_rfl) (by simp) ?_
              refine AllReadyH.cons rfl (fun K hK => ?_) AllReadyH.nil
              rw [if_pos (by rfl)]
              go_simp
              have HEN := hide (HEND.out w21 HL _ _ _ _ gHL BE21.out BXL21.out OA21.out OB21.out)
              refine hK.out _ _ HEN.out.1 (fun hHeld => ?_)
              clear hK K
              try simp only [List.getElem_toArray, List.getElem_cons_succ, List.getElem_cons_zero, Act.put, List.setIfInBounds_toArray, List.set_cons_zero, List.set_cons_succ]
              refine wpAnyH_done (by kernel_rfl) ?_ _
              go_wp2_with fail
              go_meet
              case rel => exact HEN.out.2
      · skip
        rw [if_pos (by rfl)]
        go_simp
        obtain ⟨HL, hHL⟩ : ∃ H, w3.heap.size = H := ⟨_, rfl⟩
        obtain ⟨w22, hw22⟩ : ∃ wM, wM = w3.alloc (.cells #[.slice none 0 0, .slice none 0 0, .int .i64 0, .int .i64 0, .slice none 0 0] 30) := ⟨_, rfl⟩
        have DE22 := hide (show Below w3.heap.size w3 w22 by rw [hw22]; exact alloc1 w3 _)
        have BE22 := hide (BE3.out.trans (DE22.out.mono BE3.out.size))
        have BXL22 := hide (show Box w22 HL #[.slice none 0 0, .slice none 0 0, .int .i64 0, .int .i64 0, .slice none 0 0] 30 by rw [hw22, ← hHL]; exact Box.new w3 _ _)
        have gHL : w1.heap.size ≤ HL := by rw [← hHL]; exact BE3.out.size
        have BXa22 := hide (BXa3.out.below DE22.out)
        rw [← hw22, hHL]
        clear hw22
        refine hK.out _ _ (HKX.out w22 BE22.out) (fun hHeld => ?_)
        clear hK K
        try simp only [List.getElem_toArray, List.getElem_cons_succ, List.getElem_cons_zero, Act.put, List.setIfInBounds_toArray, List.set_cons_zero, List.set_cons_succ]
        refine wpAnyH_ready (rs := [3, 4]) (by kernel_rfl) (by simp) ?_
        refine AllReadyH.cons rfl (fun K hK => ?_) (AllReadyH.cons rfl (fun K hK => ?_) AllReadyH.nil)
        · skip
          refine step_append_row13 w22 (by rfl) _ _ _ (by rfl) i0 _ Try.underlying27 HI.out iz0 iz1 iz2 rfl Ha (by rfl) BXa22.out B Ak lk ck ks (by rfl) HLK.out (HSK.out w22 BE22.out) (by omega) ?_
          intro ga ca w23 ho hg hat lga23
          have BE23 := hide (BE22.out.grown hg (by have := BE22.out.size; omega) (fun k hk => by injection hk; omega))
          have OA23 := hide (ho.lower gHa)
          have BXL23 := hide (show Box w23 HL #[.slice none 0 0, .slice none 0 0, .int .i64 0, .int .i64 0, .slice none 0 0] 30 from (hg.block HL BXL22.out.lt (fun e => tb_ne BXL22.out.tb BXa22.out.tb (by decide) (by injection e))).trans BXL22.out)
          clear ho hg hat
          refine hK.out _ _ (HKX.out w23 BE23.out) (fun hHeld => ?_)
          clear hK K
          try simp only [List.getElem_toArray, List.getElem_cons_succ, List.getElem_cons_zero, Act.put, List.setIfInBounds_toArray, List.set_cons_zero, List.set_cons_succ]
          refine wpAnyH_ready (rs := [4]) (by kernel_rfl) (by simp) ?_
          refine AllReadyH.cons rfl (fun K hK => ?_) AllReadyH.nil
          · skip
            rw [if_pos (by rfl)]
            go_simp
            obtain ⟨Hb, hHb⟩ : ∃ H, w23.heap.size = H := ⟨_, rfl⟩
            obtain ⟨w24, hw24⟩ : ∃ wM, wM = w23.alloc (.cells #[] 3) := ⟨_, rfl⟩
            have DE24 := hide (show Below w23.heap.size w23 w24 by rw [hw24]; exact alloc1 w23 _)
            have BE24 := hide (BE23.out.trans (DE24.out.mono BE23.out.size))
            have BXb24 := hide (show Box w24 Hb #[] 3 by rw [hw24, ← hHb]; exact Box.new w23 _ _)
            have gHb : w1.heap.size ≤ Hb := by rw [← hHb]; exact BE23.out.size
            have BXL24 := hide (BXL23.out.below DE24.out)
            have OA24 := hide (OA23.out.below DE24.out)
            have ngb : ga ≠ Hb := by have := lga23; omega
            have lga24 : ga < w24.heap.size := by have := DE24.out.size; have := lga23; omega
            rw [← hw24, hHb]
            clear hw24
            refine hK.out _ _ (HKX.out w24 BE24.out) (fun hHeld => ?_)
            clear hK K
            try simp only [List.getElem_toArray, List.getElem_cons_succ, List.getElem_cons_zero, Act.put, List.setIfInBounds_toArray, List.set_cons_zero, List.set_cons_succ]
            refine wpAnyH_ready (rs := [7]) (by kernel_rfl) (by simp) ?_
            refine AllReadyH.cons rfl (fun K hK => ?_) AllReadyH.nil
            · skip
              refine step_append_row13 w24 (by rfl) _ _ _ (by rfl) i0 _ Try.underlying27 HI.out iz0 iz1 iz2 rfl Hb (by rfl) BXb24.out B Ab lb cb es (by rfl) HLB.out (HSB.out w24 BE24.out) (by omega) ?_
              intro gb cc w25 ho hg hat lgb25
              have BE25 := hide (BE24.out.grown hg (by have := BE24.out.size; omega) (fun k hk => by injection hk; omega))
              have OB25 := hide (ho.lower gHb)
              have OA25 := hide (OA24.out.kept' fun x hx => hg.block x (OA24.out.tbI hx).lt (fun e => by simp only [Value.ownBlock, Option.some.injEq] at hx e; omega))
              have lga25 : ga < w25.heap.size := by have := hg.size; have := lga24; omega
              have BXL25 := hide (show Box w25 HL #[.slice none 0 0, .slice none 0 0, .int .i64 0, .int .i64 0, .slice none 0 0] 30 from (hg.block HL BXL24.out.lt (fun e => tb_ne BXL24.out.tb BXb24.out.tb (by decide) (by injection e))).trans BXL24.out)
              clear ho hg hat
              refine hK.out _ _ (HKX.out w25 BE25.out) (fun hHeld => ?_)
              clear hK K
              try simp only [List.getElem_toArray, List.getElem_cons_succ, List.getElem_cons_zero, Act.put, List.setIfInBounds_toArray, List.set_cons_zero, List.set_cons_succ]
              refine wpAnyH_take (i := 12) (v := ?_) rfl (by kernel_rfl) (by kernel_rfl) (by kernel_rfl) (fun _ _ _ h => h) (Or.inl ⟨by rfl, ?_⟩) (by assumption) ?_
              rotate_left
              focus
                intro w hSw
                try dsimp only at hSw
                go_simp
                try with_reducible rfl
              try simp only [List.getElem_toArray, List.getElem_cons_succ, List.getElem_cons_zero, Act.put, List.setIfInBounds_toArray, List.set_cons_zero, List.set_cons_succ]
              obtain ⟨s0, z0⟩ := BXL25.out.cell 0 (v := .slice none 0 0) rfl
              obtain ⟨s1, z1⟩ := BXL25.out.cell 1 (v := .slice none 0 0) rfl
              obtain ⟨s2, z2⟩ := BXL25.out.cell 2 (v := .int .i64 0) rfl
              obtain ⟨s3, z3⟩ := BXL25.out.cell 3 (v := .int .i64 0) rfl
              obtain ⟨s4, z4⟩ := BXL25.out.cell 4 (v := .slice none 0 0) rfl
              have lHL := BXL25.out.lt
              refine wpAnyH_ready (rs := [14]) (by kernel_rfl) (by simp) ?_
              refine AllReadyH.cons rfl (fun K hK => ?_) AllReadyH.nil
              rw [if_pos (by rfl)]
              go_simp
              have HEN := hide (HEND.out w25 HL _ _ _ _ gHL BE25.out BXL25.out OA25.out OB25.out)
              refine hK.out _ _ HEN.out.1 (fun hHeld => ?_)
              clear hK K
              try simp only [List.getElem_toArray, List.getElem_cons_succ, List.getElem_cons_zero, Act.put, List.setIfInBounds_toArray, List.set_cons_zero, List.set_cons_succ]
              refine wpAnyH_done (by kernel_rfl) ?_ _
              go_wp2_with fail
              go_meet
              case rel => exact HEN.out.2
        · skip
          rw [if_pos (by rfl)]
          go_simp
          obtain ⟨Hb, hHb⟩ : ∃ H, w22.heap.size = H := ⟨_, rfl⟩
          obtain ⟨w26, hw26⟩ : ∃ wM, wM = w22.alloc (.cells #[] 3) := ⟨_, rfl⟩
          have DE26 := hide (show Below w22.heap.size w22 w26 by rw [hw26]; exact alloc1 w22 _)
          have BE26 := hide (BE22.out.trans (DE26.out.mono BE22.out.size))
          have BXb26 := hide (show Box w26 Hb #[] 3 by rw [hw26, ← hHb]; exact Box.new w22 _ _)
          have gHb : w1.heap.size ≤ Hb := by rw [← hHb]; exact BE22.out.size
          have BXa26 := hide (BXa22.out.below DE26.out)
          have nab : Ha ≠ Hb := by have := BXa22.out.lt; omega
          have BXL26 := hide (BXL22.out.below DE26.out)
          rw [← hw26, hHb]
          clear hw26
          refine hK.out _ _ (HKX.out w26 BE26.out) (fun hHeld => ?_)
          clear hK K
          try simp only [List.getElem_toArray, List.getElem_cons_succ, List.getElem_cons_zero, Act.put, List.setIfInBounds_toArray, List.set_cons_zero, List.set_cons_succ]
          refine wpAnyH_ready (rs := [3]) (by kernel_rfl) (by simp) ?_
          refine AllReadyH.cons rfl (fun K hK => ?_) AllReadyH.nil
          · skip
            refine step_append_row13 w26 (by rfl) _ _ _ (by rfl) i0 _ Try.underlying27 HI.out iz0 iz1 iz2 rfl Ha (by rfl) BXa26.out B Ak lk ck ks (by rfl) HLK.out (HSK.out w26 BE26.out) (by omega) ?_
            intro ga ca w27 ho hg hat lga27
            have BE27 := hide (BE26.out.grown hg (by have := BE26.out.size; omega) (fun k hk => by injection hk; omega))
            have OA27 := hide (ho.lower gHa)
            have BXb27 := hide (show Box w27 Hb #[] 3 from (hg.block Hb BXb26.out.lt (fun e => by injection e; omega)).trans BXb26.out)
            have ngb : ga ≠ Hb := by have := BXb26.out.lt; rcases hat with h | h <;> omega
            have BXL27 := hide (show Box w27 HL #[.slice none 0 0, .slice none 0 0, .int .i64 0, .int .i64 0, .slice none 0 0] 30 from (hg.block HL BXL26.out.lt (fun e => tb_ne BXL26.out.tb BXa26.out.tb (by decide) (by injection e))).trans BXL26.out)
            clear ho hg hat
            refine hK.out _ _ (HKX.out w27 BE27.out) (fun hHeld => ?_)
            clear hK K
            try simp only [List.getElem_toArray, List.getElem_cons_succ, List.getElem_cons_zero, Act.put, List.setIfInBounds_toArray, List.set_cons_zero, List.set_cons_succ]
            refine wpAnyH_ready (rs := [7]) (by kernel_rfl) (by simp) ?_
            refine AllReadyH.cons rfl (fun K hK => ?_) AllReadyH.nil
            · skip
              refine step_append_row13 w27 (by rfl) _ _ _ (by rfl) i0 _ Try.underlying27 HI.out iz0 iz1 iz2 rfl Hb (by rfl) BXb27.out B Ab lb cb es (by rfl) HLB.out (HSB.out w27 BE27.out) (by omega) ?_
              intro gb cc w28 ho hg hat lgb28
              have BE28 := hide (BE27.out.grown hg (by have := BE27.out.size; omega) (fun k hk => by injection hk; omega))
              have OB28 := hide (ho.lower gHb)
              have OA28 := hide (OA27.out.kept' fun x hx => hg.block x (OA27.out.tbI hx).lt (fun e => by simp only [Value.ownBlock, Option.some.injEq] at hx e; omega))
              have lga28 : ga < w28.heap.size := by have := hg.size; have := lga27; omega
              have BXL28 := hide (show Box w28 HL #[.slice none 0 0, .slice none 0 0, .int .i64 0, .int .i64 0, .slice none 0 0] 30 from (hg.block HL BXL27.out.lt (fun e => tb_ne BXL27.out.tb BXb27.out.tb (by decide) (by injection e))).trans BXL27.out)
              clear ho hg hat
              refine hK.out _ _ (HKX.out w28 BE28.out) (fun hHeld => ?_)
              clear hK K
              try simp only [List.getElem_toArray, List.getElem_cons_succ, List.getElem_cons_zero, Act.put, List.setIfInBounds_toArray, List.set_cons_zero, List.set_cons_succ]
              refine wpAnyH_take (i := 12) (v := ?_) rfl (by kernel_rfl) (by kernel_rfl) (by kernel_rfl) (fun _ _ _ h => h) (Or.inl ⟨by rfl, ?_⟩) (by assumption) ?_
              rotate_left
              focus
                intro w hSw
                try dsimp only at hSw
                go_simp
                try with_reducible rfl
              try simp only [List.getElem_toArray, List.getElem_cons_succ, List.getElem_cons_zero, Act.put, List.setIfInBounds_toArray, List.set_cons_zero, List.set_cons_succ]
              obtain ⟨s0, z0⟩ := BXL28.out.cell 0 (v := .slice none 0 0) rfl
              obtain ⟨s1, z1⟩ := BXL28.out.cell 1 (v := .slice none 0 0) rfl
              obtain ⟨s2, z2⟩ := BXL28.out.cell 2 (v := .int .i64 0) rfl
              obtain ⟨s3, z3⟩ := BXL28.out.cell 3 (v := .int .i64 0) rfl
              obtain ⟨s4, z4⟩ := BXL28.out.cell 4 (v := .slice none 0 0) rfl
              have lHL := BXL28.out.lt
              refine wpAnyH_ready (rs := [14]) (by kernel_rfl) (by simp) ?_
              refine AllReadyH.cons rfl (fun K hK => ?_) AllReadyH.nil
              rw [if_pos (by rfl)]
              go_simp
              have HEN := hide (HEND.out w28 HL _ _ _ _ gHL BE28.out BXL28.out OA28.out OB28.out)
              refine hK.out _ _ HEN.out.1 (fun hHeld => ?_)
              clear hK K
              try simp only [List.getElem_toArray, List.getElem_cons_succ, List.getElem_cons_zero, Act.put, List.setIfInBounds_toArray, List.set_cons_zero, List.set_cons_succ]
              refine wpAnyH_done (by kernel_rfl) ?_ _
              go_wp2_with fail
              go_meet
              case rel => exact HEN.out.2
    · skip
      rw [if_pos (by rfl)]
      go_simp
      obtain ⟨Hb, hHb⟩ : ∃ H, w2.heap.size = H := ⟨_, rfl⟩
      obtain ⟨w29, hw29⟩ : ∃ wM, wM = w2.alloc (.cells #[] 3) := ⟨_, rfl⟩
      have DE29 := hide (show Below w2.heap.size w2 w29 by rw [hw29]; exact alloc1 w2 _)
      have BE29 := hide (BE2.out.trans (DE29.out.mono BE2.out.size))
      have BXb29 := hide (show Box w29 Hb #[] 3 by rw [hw29, ← hHb]; exact Box.new w2 _ _)
      have gHb : w1.heap.size ≤ Hb := by rw [← hHb]; exact BE2.out.size
      rw [← hw29, hHb]
      clear hw29
      refine hK.out _ _ (HKX.out w29 BE29.out) (fun hHeld => ?_)
      clear hK K
      try simp only [List.getElem_toArray, List.getElem_cons_succ, List.getElem_cons_zero, Act.put, List.setIfInBounds_toArray, List.set_cons_zero, List.set_cons_succ]
      refine wpAnyH_ready (rs := [0, 13]) (by kernel_rfl) (by simp) ?_
      refine AllReadyH.cons rfl (fun K hK => ?_) (AllReadyH.cons rfl (fun K hK => ?_) AllReadyH.nil)
      · skip
        rw [if_pos (by rfl)]
        go_simp
        obtain ⟨Ha, hHa⟩ : ∃ H, w29.heap.size = H := ⟨_, rfl⟩
        obtain ⟨w30, hw30⟩ : ∃ wM, wM = w29.alloc (.cells #[] 3) := ⟨_, rfl⟩
        have DE30 := hide (show Below w29.heap.size w29 w30 by rw [hw30]; exact alloc1 w29 _)
        have BE30 := hide (BE29.out.trans (DE30.out.mono BE29.out.size))
        have BXa30 := hide (show Box w30 Ha #[] 3 by rw [hw30, ← hHa]; exact Box.new w29 _ _)
        have gHa : w1.heap.size ≤ Ha := by rw [← hHa]; exact BE29.out.size
        have BXb30 := hide (BXb29.out.below DE30.out)
        have nab : Ha ≠ Hb := by have := BXb29.out.lt; omega
        rw [← hw30, hHa]
        clear hw30
        refine hK.out _ _ (HKX.out w30 BE30.out) (fun hHeld => ?_)
        clear hK K
        try simp only [List.getElem_toArray, List.getElem_cons_succ, List.getElem_cons_zero, Act.put, List.setIfInBounds_toArray, List.set_cons_zero, List.set_cons_succ]
        refine wpAnyH_ready (rs := [3, 13]) (by kernel_rfl) (by simp) ?_
        refine AllReadyH.cons rfl (fun K hK => ?_) (AllReadyH.cons rfl (fun K hK => ?_) AllReadyH.nil)
        · skip
          refine step_append_row13 w30 (by rfl) _ _ _ (by rfl) i0 _ Try.underlying27 HI.out iz0 iz1 iz2 rfl Ha (by rfl) BXa30.out B Ak lk ck ks (by rfl) HLK.out (HSK.out w30 BE30.out) (by omega) ?_
          intro ga ca w31 ho hg hat lga31
          have BE31 := hide (BE30.out.grown hg (by have := BE30.out.size; omega) (fun k hk => by injection hk; omega))
          have OA31 := hide (ho.lower gHa)
          have BXb31 := hide (show Box w31 Hb #[] 3 from (hg.block Hb BXb30.out.lt (fun e => by injection e; omega)).trans BXb30.out)
          have ngb : ga ≠ Hb := by have := BXb30.out.lt; rcases hat with h | h <;> omega
          clear ho hg hat
          refine hK.out _ _ (HKX.out w31 BE31.out) (fun hHeld => ?_)
          clear hK K
          try simp only [List.getElem_toArray, List.getElem_cons_succ, List.getElem_cons_zero, Act.put, List.setIfInBounds_toArray, List.set_cons_zero, List.set_cons_succ]
          refine wpAnyH_ready (rs := [7, 13]) (by kernel_rfl) (by simp) ?_
          refine AllReadyH.cons rfl (fun K hK => ?_) (AllReadyH.cons rfl (fun K hK => ?_) AllReadyH.nil)
          · skip
            refine step_append_row13 w31 (by rfl) _ _ _ (by rfl) i0 _ Try.underlying27 HI.out iz0 iz1 iz2 rfl Hb (by rfl) BXb31.out B Ab lb cb es (by rfl) HLB.out (HSB.out w31 BE31.out) (by omega) ?_
            intro gb cc w32 ho hg hat lgb32
            have BE32 := hide (BE31.out.grown hg (by have := BE31.out.size; omega) (fun k hk => by injection hk; omega))
            have OB32 := hide (ho.lower gHb)
            have OA32 := hide (OA31.out.kept' fun x hx => hg.block x (OA31.out.tbI hx).lt (fun e => by simp only [Value.ownBlock, Option.some.injEq] at hx e; omega))
            have lga32 : ga < w32.heap.size := by have := hg.size; have := lga31; omega
            clear ho hg hat
            refine hK.out _ _ (HKX.out w32 BE32.out) (fun hHeld => ?_)
            clear hK K
            try simp only [List.getElem_toArray, List.getElem_cons_succ, List.getElem_cons_zero, Act.put, List.setIfInBounds_toArray, List.set_cons_zero, List.set_cons_succ]
            refine wpAnyH_take (i := 12) (v := ?_) rfl (by kernel_rfl) (by kernel_rfl) (by kernel_rfl) (fun _ _ _ h => h) (Or.inl ⟨by rfl, ?_⟩) (by assumption) ?_
            rotate_left
            focus
              intro w hSw
              try dsimp only at hSw
              go_simp
              try with_reducible rfl
            try simp only [List.getElem_toArray, List.getElem_cons_succ, List.getElem_cons_zero, Act.put, List.setIfInBounds_toArray, List.set_cons_zero, List.set_cons_succ]
            refine wpAnyH_ready (rs := [13]) (by kernel_rfl) (by simp) ?_
            refine AllReadyH.cons rfl (fun K hK => ?_) AllReadyH.nil
            · skip
              rw [if_pos (by rfl)]
              go_simp
              obtain ⟨HL, hHL⟩ : ∃ H, w32.heap.size = H := ⟨_, rfl⟩
              obtain ⟨w33, hw33⟩ : ∃ wM, wM = w32.alloc (.cells #[.slice none 0 0, .slice none 0 0, .int .i64 0, .int .i64 0, .slice none 0 0] 30) := ⟨_, rfl⟩
              have DE33 := hide (show Below w32.heap.size w32 w33 by rw [hw33]; exact alloc1 w32 _)
              have BE33 := hide (BE32.out.trans (DE33.out.mono BE32.out.size))
              have BXL33 := hide (show Box w33 HL #[.slice none 0 0, .slice none 0 0, .int .i64 0, .int .i64 0, .slice none 0 0] 30 by rw [hw33, ← hHL]; exact Box.new w32 _ _)
              have gHL : w1.heap.size ≤ HL := by rw [← hHL]; exact BE32.out.size
              have OA33 := hide (OA32.out.below DE33.out)
              have lga33 : ga < w33.heap.size := by have := DE33.out.size; have := lga32; omega
              have OB33 := hide (OB32.out.below DE33.out)
              rw [← hw33, hHL]
              clear hw33
              refine hK.out _ _ (HKX.out w33 BE33.out) (fun hHeld => ?_)
              clear hK K
              try simp only [List.getElem_toArray, List.getElem_cons_succ, List.getElem_cons_zero, Act.put, List.setIfInBounds_toArray, List.set_cons_zero, List.set_cons_succ]
              obtain ⟨s0, z0⟩ := BXL33.out.cell 0 (v := .slice none 0 0) rfl
              obtain ⟨s1, z1⟩ := BXL33.out.cell 1 (v := .slice none 0 0) rfl
              obtain ⟨s2, z2⟩ := BXL33.out.cell 2 (v := .int .i64 0) rfl
              obtain ⟨s3, z3⟩ := BXL33.out.cell 3 (v := .int .i64 0) rfl
              obtain ⟨s4, z4⟩ := BXL33.out.cell 4 (v := .slice none 0 0) rfl
              have lHL := BXL33.out.lt
              refine wpAnyH_ready (rs := [14]) (by kernel_rfl) (by simp) ?_
              refine AllReadyH.cons rfl (fun K hK => ?_) AllReadyH.nil
              rw [if_pos (by rfl)]
              go_simp
              have HEN := hide (HEND.out w33 HL _ _ _ _ gHL BE33.out BXL33.out OA33.out OB33.out)
              refine hK.out _ _ HEN.out.1 (fun hHeld => ?_)
              clear hK K
              try simp only [List.getElem_toArray, List.getElem_cons_succ, List.getElem_cons_zero, Act.put, List.setIfInBounds_toArray, List.set_cons_zero, List.set_cons_succ]
              refine wpAnyH_done (by kernel_rfl) ?_ _
              go_wp2_with fail
              go_meet
              case rel => exact HEN.out.2
          · skip
            rw [if_pos (by rfl)]
            go_simp
            obtain ⟨HL, hHL⟩ : ∃ H, w31.heap.size = H := ⟨_, rfl⟩
            obtain ⟨w34, hw34⟩ : ∃ wM, wM = w31.alloc (.cells #[.slice none 0 0, .slice none 0 0, .int .i64 0, .int .i64 0, .slice none 0 0] 30) := ⟨_, rfl⟩
            have DE34 := hide (show Below w31.heap.size w31 w34 by rw [hw34]; exact alloc1 w31 _)
            have BE34 := hide (BE31.out.trans (DE34.out.mono BE31.out.size))
            have BXL34 := hide (show Box w34 HL #[.slice none 0 0, .slice none 0 0, .int .i64 0, .int .i64 0, .slice none 0 0] 30 by rw [hw34, ← hHL]; exact Box.new w31 _ _)
            have gHL : w1.heap.size ≤ HL := by rw [← hHL]; exact BE31.out.size
            have BXb34 := hide (BXb31.out.below DE34.out)
            have OA34 := hide (OA31.out.below DE34.out)
            have lga34 : ga < w34.heap.size := by have := DE34.out.size; have := lga31; omega
            rw [← hw34, hHL]
            clear hw34
            refine hK.out _ _ (HKX.out w34 BE34.out) (fun hHeld => ?_)
            clear hK K
            try simp only [List.getElem_toArray, List.getElem_cons_succ, List.getElem_cons_zero, Act.put, List.setIfInBounds_toArray, List.set_cons_zero, List.set_cons_succ]
            refine wpAnyH_ready (rs := [7]) (by kernel_rfl) (by simp) ?_
            refine AllReadyH.cons rfl (fun K hK => ?_) AllReadyH.nil
            · skip
              refine step_append_row13 w34 (by rfl) _ _ _ (by rfl) i0 _ Try.underlying27 HI.out iz0 iz1 iz2 rfl Hb (by rfl) BXb34.out B Ab lb cb es (by rfl) HLB.out (HSB.out w34 BE34.out) (by omega) ?_
              intro gb cc w35 ho hg hat lgb35
              have BE35 := hide (BE34.out.grown hg (by have := BE34.out.size; omega) (fun k hk => by injection hk; omega))
              have OB35 := hide (ho.lower gHb)
              have OA35 := hide (OA34.out.kept' fun x hx => hg.block x (OA34.out.tbI hx).lt (fun e => by simp only [Value.ownBlock, Option.some.injEq] at hx e; omega))
              have lga35 : ga < w35.heap.size := by have := hg.size; have := lga34; omega
              have BXL35 := hide (show Box w35 HL #[.slice none 0 0, .slice none 0 0, .int .i64 0, .int .i64 0, .slice none 0 0] 30 from (hg.block HL BXL34.out.lt (fun e => tb_ne BXL34.out.tb BXb34.out.tb (by decide) (by injection e))).trans BXL34.out)
              clear ho hg hat
              refine hK.out _ _ (HKX.out w35 BE35.out) (fun hHeld => ?_)
              clear hK K
              try simp only [List.getElem_toArray, List.getElem_cons_succ, List.getElem_cons_zero, Act.put, List.setIfInBounds_toArray, List.set_cons_zero, List.set_cons_succ]
              refine wpAnyH_take (i := 12) (v := ?_) rfl (by kernel_rfl) (by kernel_rfl) (by kernel_rfl) (fun _ _ _ h => h) (Or.inl ⟨by rfl, ?_⟩) (by assumption) ?_
              rotate_left
              focus
                intro w hSw
                try dsimp only at hSw
                go_simp
                try with_reducible rfl
              try simp only [List.getElem_toArray, List.getElem_cons_succ, List.getElem_cons_zero, Act.put, List.setIfInBounds_toArray, List.set_cons_zero, List.set_cons_succ]
              obtain ⟨s0, z0⟩ := BXL35.out.cell 0 (v := .slice none 0 0) rfl
              obtain ⟨s1, z1⟩ := BXL35.out.cell 1 (v := .slice none 0 0) rfl
              obtain ⟨s2, z2⟩ := BXL35.out.cell 2 (v := .int .i64 0) rfl
              obtain ⟨s3, z3⟩ := BXL35.out.cell 3 (v := .int .i64 0) rfl
              obtain ⟨s4, z4⟩ := BXL35.out.cell 4 (v := .slice none 0 0) rfl
              have lHL := BXL35.out.lt
              refine wpAnyH_ready (rs := [14]) (by kernel_rfl) (by simp) ?_
              refine AllReadyH.cons rfl (fun K hK => ?_) AllReadyH.nil
              rw [if_pos (by rfl)]
              go_simp
              have HEN := hide (HEND.out w35 HL _ _ _ _ gHL BE35.out BXL35.out OA35.out OB35.out)
              refine hK.out _ _ HEN.out.1 (fun hHeld => ?_)
              clear hK K
              try simp only [List.getElem_toArray, List.getElem_cons_succ, List.getElem_cons_zero, Act.put, List.setIfInBounds_toArray, List.set_cons_zero, List.set_cons_succ]
              refine wpAnyH_done (by kernel_rfl) ?_ _
              go_wp2_with fail
              go_meet
              case rel => exact HEN.out.2
        · skip
          rw [if_pos (by rfl)]
          go_simp
          obtain ⟨HL, hHL⟩ : ∃ H, w30.heap.size = H := ⟨_, rfl⟩
          obtain ⟨w36, hw36⟩ : ∃ wM, wM = w30.alloc (.cells #[.slice none 0 0, .slice none 0 0, .int .i64 0, .int .i64 0, .slice none 0 0] 30) := ⟨_, rfl⟩
          have DE36 := hide (show Below w30.heap.size w30 w36 by rw [hw36]; exact alloc1 w30 _)
          have BE36 := hide (BE30.out.trans (DE36.out.mono BE30.out.size))
          have BXL36 := hide (show Box w36 HL #[.slice none 0 0, .slice none 0 0, .int .i64 0, .int .i64 0, .slice none 0 0] 30 by rw [hw36, ← hHL]; exact Box.new w30 _ _)
          have gHL : w1.heap.size ≤ HL := by rw [← hHL]; exact BE30.out.size
          have BXa36 := hide (BXa30.out.below DE36.out)
          have BXb36 := hide (BXb30.out.below DE36.out)
          rw [← hw36, hHL]
          clear hw36
          refine hK.out _ _ (HKX.out w36 BE36.out) (fun hHeld => ?_)
          clear hK K
          try simp only [List.getElem_toArray, List.getElem_cons_succ, List.getElem_cons_zero, Act.put, List.setIfInBounds_toArray, List.set_cons_zero, List.set_cons_succ]
          refine wpAnyH_ready (rs := [3]) (by kernel_rfl) (by simp) ?_
          refine AllReadyH.cons rfl (fun K hK => ?_) AllReadyH.nil
          · skip
            refine step_append_row13 w36 (by rfl) _ _ _ (by rfl) i0 _ Try.underlying27 HI.out iz0 iz1 iz2 rfl Ha (by rfl) BXa36.out B Ak lk ck ks (by rfl) HLK.out (HSK.out w36 BE36.out) (by omega) ?_
            intro ga ca w37 ho hg hat lga37
            have BE37 := hide (BE36.out.grown hg (by have := BE36.out.size; omega) (fun k hk => by injection hk; omega))
            have OA37 := hide (ho.lower gHa)
            have BXb37 := hide (show Box w37 Hb #[] 3 from (hg.block Hb BXb36.out.lt (fun e => by injection e; omega)).trans BXb36.out)
            have ngb : ga ≠ Hb := by have := BXb36.out.lt; rcases hat with h | h <;> omega
            have BXL37 := hide (show Box w37 HL #[.slice none 0 0, .slice none 0 0, .int .i64 0, .int .i64 0, .slice none 0 0] 30 from (hg.block HL BXL36.out.lt (fun e => tb_ne BXL36.out.tb BXa36.out.tb (by decide) (by injection e))).trans BXL36.out)
            clear ho hg hat
            refine hK.out _ _ (HKX.out w37 BE37.out) (fun hHeld => ?_)
            clear hK K
            try simp only [List.getElem_toArray, List.getElem_cons_succ, List.getElem_cons_zero, Act.put, List.setIfInBounds_toArray, List.set_cons_zero, List.set_cons_succ]
            refine wpAnyH_ready (rs := [7]) (by kernel_rfl) (by simp) ?_
            refine AllReadyH.cons rfl (fun K hK => ?_) AllReadyH.nil
            · skip
              refine step_append_row13 w37 (by rfl) _ _ _ (by rfl) i0 _ Try.underlying27 HI.out iz0 iz1 iz2 rfl Hb (by rfl) BXb37.out B Ab lb cb es (by rfl) HLB.out (HSB.out w37 BE37.out) (by omega) ?_
              intro gb cc w38 ho hg hat lgb38
              have BE38 := hide (BE37.out.grown hg (by have := BE37.out.size; omega) (fun k hk => by injection hk; omega))
              have OB38 := hide (ho.lower gHb)
              have OA38 := hide (OA37.out.kept' fun x hx => hg.block x (OA37.out.tbI hx).lt (fun e => by simp only [Value.ownBlock, Option.some.injEq] at hx e; omega))
              have lga38 : ga < w38.heap.size := by have := hg.size; have := lga37; omega
              have BXL38 := hide (show Box w38 HL #[.slice none 0 0, .slice none 0 0, .int .i64 0, .int .i64 0, .slice none 0 0] 30 from (hg.block HL BXL37.out.lt (fun e => tb_ne BXL37.out.tb BXb37.out.tb (by decide) (by injection e))).trans BXL37.out)
              clear ho hg hat
              refine hK.out _ _ (HKX.out w38 BE38.out) (fun hHeld => ?_)
              clear hK K
              try simp only [List.getElem_toArray, List.getElem_cons_succ, List.getElem_cons_zero, Act.put, List.setIfInBounds_toArray, List.set_cons_zero, List.set_cons_succ]
              refine wpAnyH_take (i := 12) (v := ?_) rfl (by kernel_rfl) (by kernel_rfl) (by kernel_rfl) (fun _ _ _ h => h) (Or.inl ⟨by rfl, ?_⟩) (by assumption) ?_
              rotate_left
              focus
                intro w hSw
                try dsimp only at hSw
                go_simp
                try with_reducible rfl
              try simp only [List.getElem_toArray, List.getElem_cons_succ, List.getElem_cons_zero, Act.put, List.setIfInBounds_toArray, List.set_cons_zero, List.set_cons_succ]
              obtain ⟨s0, z0⟩ := BXL38.out.cell 0 (v := .slice none 0 0) rfl
              obtain ⟨s1, z1⟩ := BXL38.out.cell 1 (v := .slice none 0 0) rfl
              obtain ⟨s2, z2⟩ := BXL38.out.cell 2 (v := .int .i64 0) rfl
              obtain ⟨s3, z3⟩ := BXL38.out.cell 3 (v := .int .i64 0) rfl
              obtain ⟨s4, z4⟩ := BXL38.out.cell 4 (v := .slice none 0 0) rfl
              have lHL := BXL38.out.lt
              refine wpAnyH_ready (rs := [14]) (by kernel_rfl) (by simp) ?_
              refine AllReadyH.cons rfl (fun K hK => ?_) AllReadyH.nil
              rw [if_pos (by rfl)]
              go_simp
              have HEN := hide (HEND.out w38 HL _ _ _ _ gHL BE38.out BXL38.out OA38.out OB38.out)
              refine hK.out _ _ HEN.out.1 (fun hHeld => ?_)
              clear hK K
              try simp only [List.getElem_toArray, List.getElem_cons_succ, List.getElem_cons_zero, Act.put, List.setIfInBounds_toArray, List.set_cons_zero, List.set_cons_succ]
              refine wpAnyH_done (by kernel_rfl) ?_ _
              go_wp2_with fail
              go_meet
              case rel => exact HEN.out.2
      · skip
        rw [if_pos (by rfl)]
        go_simp
        obtain ⟨HL, hHL⟩ : ∃ H, w29.heap.size = H := ⟨_, rfl⟩
        obtain ⟨w39, hw39⟩ : ∃ wM, wM = w29.alloc (.cells #[.slice none 0 0, .slice none 0 0, .int .i64 0, .int .i64 0, .slice none 0 0] 30) := ⟨_, rfl⟩
        have DE39 := hide (show Below w29.heap.size w29 w39 by rw [hw39]; exact alloc1 w29 _)
        have BE39 := hide (BE29.out.trans (DE39.out.mono BE29.out.size))
        have BXL39 := hide (show Box w39 HL #[.slice none 0 0, .slice none 0 0, .int .i64 0, .int .i64 0, .slice none 0 0] 30 by rw [hw39, ← hHL]; exact Box.new w29 _ _)
        have gHL : w1.heap.size ≤ HL := by rw [← hHL]; exact BE29.out.size
        have BXb39 := hide (BXb29.out.below DE39.out)
        rw [← hw39, hHL]
        clear hw39
        refine hK.out _ _ (HKX.out w39 BE39.out) (fun hHeld => ?_)
        clear hK K
        try simp only [List.getElem_toArray, List.getElem_cons_succ, List.getElem_cons_zero, Act.put, List.setIfInBounds_toArray, List.set_cons_zero, List.set_cons_succ]
        refine wpAnyH_ready (rs := [0]) (by kernel_rfl) (by simp) ?_
        refine AllReadyH.cons rfl (fun K hK => ?_) AllReadyH.nil
        · skip
          rw [if_pos (by rfl)]
          go_simp
          obtain ⟨Ha, hHa⟩ : ∃ H, w39.heap.size = H := ⟨_, rfl⟩
          obtain ⟨w40, hw40⟩ : ∃ wM, wM = w39.alloc (.cells #[] 3) := ⟨_, rfl⟩
          have DE40 := hide (show Below w39.heap.size w39 w40 by rw [hw40]; exact alloc1 w39 _)
          have BE40 := hide (BE39.out.trans (DE40.out.mono BE39.out.size))
          have BXa40 := hide (show Box w40 Ha #[] 3 by rw [hw40, ← hHa]; exact Box.new w39 _ _)
          have gHa : w1.heap.size ≤ Ha := by rw [← hHa]; exact BE39.out.size
          have BXb40 := hide (BXb39.out.below DE40.out)
          have nab : Ha ≠ Hb := by have := BXb39.out.lt; omega
          have BXL40 := hide (BXL39.out.below DE40.out)
          rw [← hw40, hHa]
          clear hw40
          refine hK.out _ _ (HKX.out w40 BE40.out) (fun hHeld => ?_)
          clear hK K
          try simp only [List.getElem_toArray, List.getElem_cons_succ, List.getElem_cons_zero, Act.put, List.setIfInBounds_toArray, List.set_cons_zero, List.set_cons_succ]
          refine wpAnyH_ready (rs := [3]) (by kernel_rfl) (by simp) ?_
          refine AllReadyH.cons rfl (fun K hK => ?_) AllReadyH.nil
          · skip
            refine step_append_row13 w40 (by rfl) _ _ _ (by rfl) i0 _ Try.underlying27 HI.out iz0 iz1 iz2 rfl Ha (by rfl) BXa40.out B Ak lk ck ks (by rfl) HLK.out (HSK.out w40 BE40.out) (by omega) ?_
            intro ga ca w41 ho hg hat lga41
            have BE41 := hide (BE40.out.grown hg (by have := BE40.out.size; omega) (fun k hk => by injection hk; omega))
            have OA41 := hide (ho.lower gHa)
            have BXb41 := hide (show Box w41 Hb #[] 3 from (hg.block Hb BXb40.out.lt (fun e => by injection e; omega)).trans BXb40.out)
            have ngb : ga ≠ Hb := by have := BXb40.out.lt; rcases hat with h | h <;> omega
            have BXL41 := hide (show Box w41 HL #[.slice none 0 0, .slice none 0 0, .int .i64 0, .int .i64 0, .slice none 0 0] 30 from (hg.block HL BXL40.out.lt (fun e => tb_ne BXL40.out.tb BXa40.out.tb (by decide) (by injection e))).trans BXL40.out)
            clear ho hg hat
            refine hK.out _ _ (HKX.out w41 BE41.out) (fun hHeld => ?_)
            clear hK K
            try simp only [List.getElem_toArray, List.getElem_cons_succ, List.getElem_cons_zero, Act.put, List.setIfInBounds_toArray, List.set_cons_zero, List.set_cons_succ]
            refine wpAnyH_ready (rs := [7]) (by kernel_rfl) (by simp) ?_
            refine AllReadyH.cons rfl (fun K hK => ?_) AllReadyH.nil
            · skip
              refine step_append_row13 w41 (by rfl) _ _ _ (by rfl) i0 _ Try.underlying27 HI.out iz0 iz1 iz2 rfl Hb (by rfl) BXb41.out B Ab lb cb es (by rfl) HLB.out (HSB.out w41 BE41.out) (by omega) ?_
              intro gb cc w42 ho hg hat lgb42
              have BE42 := hide (BE41.out.grown hg (by have := BE41.out.size; omega) (fun k hk => by injection hk; omega))
              have OB42 := hide (ho.lower gHb)
              have OA42 := hide (OA41.out.kept' fun x hx => hg.block x (OA41.out.tbI hx).lt (fun e => by simp only [Value.ownBlock, Option.some.injEq] at hx e; omega))
              have lga42 : ga < w42.heap.size := by have := hg.size; have := lga41; omega
              have BXL42 := hide (show Box w42 HL #[.slice none 0 0, .slice none 0 0, .int .i64 0, .int .i64 0, .slice none 0 0] 30 from (hg.block HL BXL41.out.lt (fun e => tb_ne BXL41.out.tb BXb41.out.tb (by decide) (by injection e))).trans BXL41.out)
              clear ho hg hat
              refine hK.out _ _ (HKX.out w42 BE42.out) (fun hHeld => ?_)
              clear hK K
              try simp only [List.getElem_toArray, List.getElem_cons_succ, List.getElem_cons_zero, Act.put, List.setIfInBounds_toArray, List.set_cons_zero, List.set_cons_succ]
              refine wpAnyH_take (i := 12) (v := ?_) rfl (by kernel_rfl) (by kernel_rfl) (by kernel_rfl) (fun _ _ _ h => h) (Or.inl ⟨by rfl, ?_⟩) (by assumption) ?_
              rotate_left
              focus
                intro w hSw
                try dsimp only at hSw
                go_simp
                try with_reducible rfl
              try simp only [List.getElem_toArray, List.getElem_cons_succ, List.getElem_cons_zero, Act.put, List.setIfInBounds_toArray, List.set_cons_zero, List.set_cons_succ]
              obtain ⟨s0, z0⟩ := BXL42.out.cell 0 (v := .slice none 0 0) rfl
              obtain ⟨s1, z1⟩ := BXL42.out.cell 1 (v := .slice none 0 0) rfl
              obtain ⟨s2, z2⟩ := BXL42.out.cell 2 (v := .int .i64 0) rfl
              obtain ⟨s3, z3⟩ := BXL42.out.cell 3 (v := .int .i64 0) rfl
              obtain ⟨s4, z4⟩ := BXL42.out.cell 4 (v := .slice none 0 0) rfl
              have lHL := BXL42.out.lt
              refine wpAnyH_ready (rs := [14]) (by kernel_rfl) (by simp) ?_
              refine AllReadyH.cons rfl (fun K hK => ?_) AllReadyH.nil
              rw [if_pos (by rfl)]
              go_simp
              have HEN := hide (HEND.out w42 HL _ _ _ _ gHL BE42.out BXL42.out OA42.out OB42.out)
              refine hK.out _ _ HEN.out.1 (fun hHeld => ?_)
              clear hK K
              try simp only [List.getElem_toArray, List.getElem_cons_succ, List.getElem_cons_zero, Act.put, List.setIfInBounds_toArray, List.set_cons_zero, List.set_cons_succ]
              refine wpAnyH_done (by kernel_rfl) ?_ _
              go_wp2_with fail
              go_meet
              case rel => exact HEN.out.2
    · skip
      rw [if_pos (by rfl)]
      go_simp
      obtain ⟨HL, hHL⟩ : ∃ H, w2.heap.size = H := ⟨_, rfl⟩
      obtain ⟨w43, hw43⟩ : ∃ wM, wM = w2.alloc (.cells #[.slice none 0 0, .slice none 0 0, .int .i64 0, .int .i64 0, .slice none 0 0] 30) := ⟨_, rfl⟩
      have DE43 := hide (show Below w2.heap.size w2 w43 by rw [hw43]; exact alloc1 w2 _)
      have BE43 := hide (BE2.out.trans (DE43.out.mono BE2.out.size))
      have BXL43 := hide (show Box w43 HL #[.slice none 0 0, .slice none 0 0, .int .i64 0, .int .i64 0, .slice none 0 0] 30 by rw [hw43, ← hHL]; exact Box.new w2 _ _)
      have gHL : w1.heap.size ≤ HL := by rw [← hHL]; exact BE2.out.size
      rw [← hw43, hHL]
      clear hw43
      refine hK.out _ _ (HKX.out w43 BE43.out) (fun hHeld => ?_)
      clear hK K
      try simp only [List.getElem_toArray, List.getElem_cons_succ, List.getElem_cons_zero, Act.put, List.setIfInBounds_toArray, List.set_cons_zero, List.set_cons_succ]
      refine wpAnyH_ready (rs := [0, 4]) (by kernel_rfl) (by simp) ?_
      refine AllReadyH.cons rfl (fun K hK => ?_) (AllReadyH.cons rfl (fun K hK => ?_) AllReadyH.nil)
      · skip
        rw [if_pos (by rfl)]
        go_simp
        obtain ⟨Ha, hHa⟩ : ∃ H, w43.heap.size = H := ⟨_, rfl⟩
        obtain ⟨w44, hw44⟩ : ∃ wM, wM = w43.alloc (.cells #[] 3) := ⟨_, rfl⟩
        have DE44 := hide (show Below w43.heap.size w43 w44 by rw [hw44]; exact alloc1 w43 _)
        have BE44 := hide (BE43.out.trans (DE44.out.mono BE43.out.size))
        have BXa44 := hide (show Box w44 Ha #[] 3 by rw [hw44, ← hHa]; exact Box.new w43 _ _)
        have gHa : w1.heap.size ≤ Ha := by rw [← hHa]; exact BE43.out.size
        have BXL44 := hide (BXL43.out.below DE44.out)
        rw [← hw44, hHa]
        clear hw44
        refine hK.out _ _ (HKX.out w44 BE44.out) (fun hHeld => ?_)
        clear hK K
        try simp only [List.getElem_toArray, List.getElem_cons_succ, List.getElem_cons_zero, Act.put, List.setIfInBounds_toArray, List.set_cons_zero, List.set_cons_succ]
        refine wpAnyH_ready (rs := [3, 4]) (by kernel_rfl) (by simp) ?_
        refine AllReadyH.cons rfl (fun K hK => ?_) (AllReadyH.cons rfl (fun K hK => ?_) AllReadyH.nil)
        · skip
          refine step_append_row13 w44 (by rfl) _ _ _ (by rfl) i0 _ Try.underlying27 HI.out iz0 iz1 iz2 rfl Ha (by rfl) BXa44.out B Ak lk ck ks (by rfl) HLK.out (HSK.out w44 BE44.out) (by omega) ?_
          intro ga ca w45 ho hg hat lga45
          have BE45 := hide (BE44.out.grown hg (by have := BE44.out.size; omega) (fun k hk => by injection hk; omega))
          have OA45 := hide (ho.lower gHa)
          have BXL45 := hide (show Box w45 HL #[.slice none 0 0, .slice none 0 0, .int .i64 0, .int .i64 0, .slice none 0 0] 30 from (hg.block HL BXL44.out.lt (fun e => tb_ne BXL44.out.tb BXa44.out.tb (by decide) (by injection e))).trans BXL44.out)
          clear ho hg hat
          refine hK.out _ _ (HKX.out w45 BE45.out) (fun hHeld => ?_)
          clear hK K
          try simp only [List.getElem_toArray, List.getElem_cons_succ, List.getElem_cons_zero, Act.put, List.setIfInBounds_toArray, List.set_cons_zero, List.set_cons_succ]
          refine wpAnyH_ready (rs := [4]) (by kernel_rfl) (by simp) ?_
          refine AllReadyH.cons rfl (fun K hK => ?_) AllReadyH.nil
          · skip
            rw [if_pos (by rfl)]
            go_simp
            obtain ⟨Hb, hHb⟩ : ∃ H, w45.heap.size = H := ⟨_, rfl⟩
            obtain ⟨w46, hw46⟩ : ∃ wM, wM = w45.alloc (.cells #[] 3) := ⟨_, rfl⟩
            have DE46 := hide (show Below w45.heap.size w45 w46 by rw [hw46]; exact alloc1 w45 _)
            have BE46 := hide (BE45.out.trans (DE46.out.mono BE45.out.size))
            have BXb46 := hide (show Box w46 Hb #[] 3 by rw [hw46, ← hHb]; exact Box.new w45 _ _)
            have gHb : w1.heap.size ≤ Hb := by rw [← hHb]; exact BE45.out.size
            have BXL46 := hide (BXL45.out.below DE46.out)
            have OA46 := hide (OA45.out.below DE46.out)
            have ngb : ga ≠ Hb := by have := lga45; omega
            have lga46 : ga < w46.heap.size := by have := DE46.out.size; have := lga45; omega
            rw [← hw46, hHb]
            clear hw46
            refine hK.out _ _ (HKX.out w46 BE46.out) (fun hHeld => ?_)
            clear hK K
            try simp only [List.getElem_toArray, List.getElem_cons_succ, List.getElem_cons_zero, Act.put, List.setIfInBounds_toArray, List.set_cons_zero, List.set_cons_succ]
            refine wpAnyH_ready (rs := [7]) (by kernel_rfl) (by simp) ?_
            refine AllReadyH.cons rfl (fun K hK => ?_) AllReadyH.nil
            · skip
              refine step_append_row13 w46 (by rfl) _ _ _ (by rfl) i0 _ Try.underlying27 HI.out iz0 iz1 iz2 rfl Hb (by rfl) BXb46.out B Ab lb cb es (by rfl) HLB.out (HSB.out w46 BE46.out) (by omega) ?_
              intro gb cc w47 ho hg hat lgb47
              have BE47 := hide (BE46.out.grown hg (by have := BE46.out.size; omega) (fun k hk => by injection hk; omega))
              have OB47 := hide (ho.lower gHb)
              have OA47 := hide (OA46.out.kept' fun x hx => hg.block x (OA46.out.tbI hx).lt (fun e => by simp only [Value.ownBlock, Option.some.injEq] at hx e; omega))
              have lga47 : ga < w47.heap.size := by have := hg.size; have := lga46; omega
              have BXL47 := hide (show Box w47 HL #[.slice none 0 0, .slice none 0 0, .int .i64 0, .int .i64 0, .slice none 0 0] 30 from (hg.block HL BXL46.out.lt (fun e => tb_ne BXL46.out.tb BXb46.out.tb (by decide) (by injection e))).trans BXL46.out)
              clear ho hg hat
              refine hK.out _ _ (HKX.out w47 BE47.out) (fun hHeld => ?_)
              clear hK K
              try simp only [List.getElem_toArray, List.getElem_cons_succ, List.getElem_cons_zero, Act.put, List.setIfInBounds_toArray, List.set_cons_zero, List.set_cons_succ]
              refine wpAnyH_take (i := 12) (v := ?_) rfl (by kernel_rfl) (by kernel_rfl) (by kernel_rfl) (fun _ _ _ h => h) (Or.inl ⟨by rfl, ?_⟩) (by assumption) ?_
              rotate_left
              focus
                intro w hSw
                try dsimp only at hSw
                go_simp
                try with_reducible rfl
              try simp only [List.getElem_toArray, List.getElem_cons_succ, List.getElem_cons_zero, Act.put, List.setIfInBounds_toArray, List.set_cons_zero, List.set_cons_succ]
              obtain ⟨s0, z0⟩ := BXL47.out.cell 0 (v := .slice none 0 0) rfl
              obtain ⟨s1, z1⟩ := BXL47.out.cell 1 (v := .slice none 0 0) rfl
              obtain ⟨s2, z2⟩ := BXL47.out.cell 2 (v := .int .i64 0) rfl
              obtain ⟨s3, z3⟩ := BXL47.out.cell 3 (v := .int .i64 0) rfl
              obtain ⟨s4, z4⟩ := BXL47.out.cell 4 (v := .slice none 0 0) rfl
              have lHL := BXL47.out.lt
              refine wpAnyH_ready (rs := [14]) (by kernel_rfl) (by simp) ?_
              refine AllReadyH.cons rfl (fun K hK => ?_) AllReadyH.nil
              rw [if_pos (by rfl)]
              go_simp
              have HEN := hide (HEND.out w47 HL _ _ _ _ gHL BE47.out BXL47.out OA47.out OB47.out)
              refine hK.out _ _ HEN.out.1 (fun hHeld => ?_)
              clear hK K
              try simp only [List.getElem_toArray, List.getElem_cons_succ, List.getElem_cons_zero, Act.put, List.setIfInBounds_toArray, List.set_cons_zero, List.set_cons_succ]
              refine wpAnyH_done (by kernel_rfl) ?_ _
              go_wp2_with fail
              go_meet
              case rel => exact HEN.out.2
        · skip
          rw [if_pos (by rfl)]
          go_simp
          obtain ⟨Hb, hHb⟩ : ∃ H, w44.heap.size = H := ⟨_, rfl⟩
          obtain ⟨w48, hw48⟩ : ∃ wM, wM = w44.alloc (.cells #[] 3) := ⟨_, rfl⟩
          have DE48 := hide (show Below w44.heap.size w44 w48 by rw [hw48]; exact alloc1 w44 _)
          have BE48 := hide (BE44.out.trans (DE48.out.mono BE44.out.size))
          have BXb48 := hide (show Box w48 Hb #[] 3 by rw [hw48, ← hHb]; exact Box.new w44 _ _)
          have gHb : w1.heap.size ≤ Hb := by rw [← hHb]; exact BE44.out.size
          have BXa48 := hide (BXa44.out.below DE48.out)
          have nab : Ha ≠ Hb := by have := BXa44.out.lt; omega
          have BXL48 := hide (BXL44.out.below DE48.out)
          rw [← hw48, hHb]
          clear hw48
          refine hK.out _ _ (HKX.out w48 BE48.out) (fun hHeld => ?_)
          clear hK K
          try simp only [List.getElem_toArray, List.getElem_cons_succ, List.getElem_cons_zero, Act.put, List.setIfInBounds_toArray, List.set_cons_zero, List.set_cons_succ]
          refine wpAnyH_ready (rs := [3]) (by kernel_rfl) (by simp) ?_
          refine AllReadyH.cons rfl (fun K hK => ?_) AllReadyH.nil
          · skip
            refine step_append_row13 w48 (by rfl) _ _ _ (by rfl) i0 _ Try.underlying27 HI.out iz0 iz1 iz2 rfl Ha (by rfl) BXa48.out B Ak lk ck ks (by rfl) HLK.out (HSK.out w48 BE48.out) (by omega) ?_
            intro ga ca w49 ho hg hat lga49
            have BE49 := hide (BE48.out.grown hg (by have := BE48.out.size; omega) (fun k hk => by injection hk; omega))
            have OA49 := hide (ho.lower gHa)
            have BXb49 := hide (show Box w49 Hb #[] 3 from (hg.block Hb BXb48.out.lt (fun e => by injection e; omega)).trans BXb48.out)
            have ngb : ga ≠ Hb := by have := BXb48.out.lt; rcases hat with h | h <;> omega
            have BXL49 := hide (show Box w49 HL #[.slice none 0 0, .slice none 0 0, .int .i64 0, .int .i64 0, .slice none 0 0] 30 from (hg.block HL BXL48.out.lt (fun e => tb_ne BXL48.out.tb BXa48.out.tb (by decide) (by injection e))).trans BXL48.out)
            clear ho hg hat
            refine hK.out _ _ (HKX.out w49 BE49.out) (fun hHeld => ?_)
            clear hK K
            try simp only [List.getElem_toArray, List.getElem_cons_succ, List.getElem_cons_zero, Act.put, List.setIfInBounds_toArray, List.set_cons_zero, List.set_cons_succ]
            refine wpAnyH_ready (rs := [7]) (by kernel_rfl) (by simp) ?_
            refine AllReadyH.cons rfl (fun K hK => ?_) AllReadyH.nil
            · skip
              refine step_append_row13 w49 (by rfl) _ _ _ (by rfl) i0 _ Try.underlying27 HI.out iz0 iz1 iz2 rfl Hb (by rfl) BXb49.out B Ab lb cb es (by rfl) HLB.out (HSB.out w49 BE49.out) (by omega) ?_
              intro gb cc w50 ho hg hat lgb50
              have BE50 := hide (BE49.out.grown hg (by have := BE49.out.size; omega) (fun k hk => by injection hk; omega))
              have OB50 := hide (ho.lower gHb)
              have OA50 := hide (OA49.out.kept' fun x hx => hg.block x (OA49.out.tbI hx).lt (fun e => by simp only [Value.ownBlock, Option.some.injEq] at hx e; omega))
              have lga50 : ga < w50.heap.size := by have := hg.size; have := lga49; omega
              have BXL50 := hide (show Box w50 HL #[.slice none 0 0, .slice none 0 0, .int .i64 0, .int .i64 0, .slice none 0 0] 30 from (hg.block HL BXL49.out.lt (fun e => tb_ne BXL49.out.tb BXb49.out.tb (by decide) (by injection e))).trans BXL49.out)
              clear ho hg hat
              refine hK.out _ _ (HKX.out w50 BE50.out) (fun hHeld => ?_)
              clear hK K
              try simp only [List.getElem_toArray, List.getElem_cons_succ, List.getElem_cons_zero, Act.put, List.setIfInBounds_toArray, List.set_cons_zero, List.set_cons_succ]
              refine wpAnyH_take (i := 12) (v := ?_) rfl (by kernel_rfl) (by kernel_rfl) (by kernel_rfl) (fun _ _ _ h => h) (Or.inl ⟨by rfl, ?_⟩) (by assumption) ?_
              rotate_left
              focus
                intro w hSw
                try dsimp only at hSw
                go_simp
                try with_reducible rfl
              try simp only [List.getElem_toArray, List.getElem_cons_succ, List.getElem_cons_zero, Act.put, List.setIfInBounds_toArray, List.set_cons_zero, List.set_cons_succ]
              obtain ⟨s0, z0⟩ := BXL50.out.cell 0 (v := .slice none 0 0) rfl
              obtain ⟨s1, z1⟩ := BXL50.out.cell 1 (v := .slice none 0 0) rfl
              obtain ⟨s2, z2⟩ := BXL50.out.cell 2 (v := .int .i64 0) rfl
              obtain ⟨s3, z3⟩ := BXL50.out.cell 3 (v := .int .i64 0) rfl
              obtain ⟨s4, z4⟩ := BXL50.out.cell 4 (v := .slice none 0 0) rfl
              have lHL := BXL50.out.lt
              refine wpAnyH_ready (rs := [14]) (by kernel_rfl) (by simp) ?_
              refine AllReadyH.cons rfl (fun K hK => ?_) AllReadyH.nil
              rw [if_pos (by rfl)]
              go_simp
              have HEN := hide (HEND.out w50 HL _ _ _ _ gHL BE50.out BXL50.out OA50.out OB50.out)
              refine hK.out _ _ HEN.out.1 (fun hHeld => ?_)
              clear hK K
              try simp only [List.getElem_toArray, List.getElem_cons_succ, List.getElem_cons_zero, Act.put, List.setIfInBounds_toArray, List.set_cons_zero, List.set_cons_succ]
              refine wpAnyH_done (by kernel_rfl) ?_ _
              go_wp2_with fail
              go_meet
              case rel => exact HEN.out.2
      · skip
        rw [if_pos (by rfl)]
        go_simp
        obtain ⟨Hb, hHb⟩ : ∃ H, w43.heap.size = H := ⟨_, rfl⟩
        obtain ⟨w51, hw51⟩ : ∃ wM, wM = w43.alloc (.cells #[] 3) := ⟨_, rfl⟩
        have DE51 := hide (show Below w43.heap.size w43 w51 by rw [hw51]; exact alloc1 w43 _)
        have BE51 := hide (BE43.out.trans (DE51.out.mono BE43.out.size))
        have BXb51 := hide (show Box w51 Hb #[] 3 by rw [hw51, ← hHb]; exact Box.new w43 _ _)
        have gHb : w1.heap.size ≤ Hb := by rw [← hHb]; exact BE43.out.size
        have BXL51 := hide (BXL43.out.below DE51.out)
        rw [← hw51, hHb]
        clear hw51
        refine hK.out _ _ (HKX.out w51 BE51.out) (fun hHeld => ?_)
        clear hK K
        try simp only [List.getElem_toArray, List.getElem_cons_succ, List.getElem_cons_zero, Act.put, List.setIfInBounds_toArray, List.set_cons_zero, List.set_cons_succ]
        refine wpAnyH_ready (rs := [0]) (by kernel_rfl) (by simp) ?_
        refine AllReadyH.cons rfl (fun K hK => ?_) AllReadyH.nil
        · skip
          rw [if_pos (by rfl)]
          go_simp
          obtain ⟨Ha, hHa⟩ : ∃ H, w51.heap.size = H := ⟨_, rfl⟩
          obtain ⟨w52, hw52⟩ : ∃ wM, wM = w51.alloc (.cells #[] 3) := ⟨_, rfl⟩
          have DE52 := hide (show Below w51.heap.size w51 w52 by rw [hw52]; exact alloc1 w51 _)
          have BE52 := hide (BE51.out.trans (DE52.out.mono BE51.out.size))
          have BXa52 := hide (show Box w52 Ha #[] 3 by rw [hw52, ← hHa]; exact Box.new w51 _ _)
          have gHa : w1.heap.size ≤ Ha := by rw [← hHa]; exact BE51.out.size
          have BXb52 := hide (BXb51.out.below DE52.out)
          have nab : Ha ≠ Hb := by have := BXb51.out.lt; omega
          have BXL52 := hide (BXL51.out.below DE52.out)
          rw [← hw52, hHa]
          clear hw52
          refine hK.out _ _ (HKX.out w52 BE52.out) (fun hHeld => ?_)
          clear hK K
          try simp only [List.getElem_toArray, List.getElem_cons_succ, List.getElem_cons_zero, Act.put, List.setIfInBounds_toArray, List.set_cons_zero, List.set_cons_succ]
          refine wpAnyH_ready (rs := [3]) (by kernel_rfl) (by simp) ?_
          refine AllReadyH.cons rfl (fun K hK => ?_) AllReadyH.nil
          · skip
            refine step_append_row13 w52 (by rfl) _ _ _ (by rfl) i0 _ Try.underlying27 HI.out iz0 iz1 iz2 rfl Ha (by rfl) BXa52.out B Ak lk ck ks (by rfl) HLK.out (HSK.out w52 BE52.out) (by omega) ?_
            intro ga ca w53 ho hg hat lga53
            have BE53 := hide (BE52.out.grown hg (by have := BE52.out.size; omega) (fun k hk => by injection hk; omega))
            have OA53 := hide (ho.lower gHa)
            have BXb53 := hide (show Box w53 Hb #[] 3 from (hg.block Hb BXb52.out.lt (fun e => by injection e; omega)).trans BXb52.out)
            have ngb : ga ≠ Hb := by have := BXb52.out.lt; rcases hat with h | h <;> omega
            have BXL53 := hide (show Box w53 HL #[.slice none 0 0, .slice none 0 0, .int .i64 0, .int .i64 0, .slice none 0 0] 30 from (hg.block HL BXL52.out.lt (fun e => tb_ne BXL52.out.tb BXa52.out.tb (by decide) (by injection e))).trans BXL52.out)
            clear ho hg hat
            refine hK.out _ _ (HKX.out w53 BE53.out) (fun hHeld => ?_)
            clear hK K
            try simp only [List.getElem_toArray, List.getElem_cons_succ, List.getElem_cons_zero, Act.put, List.setIfInBounds_toArray, List.set_cons_zero, List.set_cons_succ]
            refine wpAnyH_ready (rs := [7]) (by kernel_rfl) (by simp) ?_
            refine AllReadyH.cons rfl (fun K hK => ?_) AllReadyH.nil
            · skip
              refine step_append_row13 w53 (by rfl) _ _ _ (by rfl) i0 _ Try.underlying27 HI.out iz0 iz1 iz2 rfl Hb (by rfl) BXb53.out B Ab lb cb es (by rfl) HLB.out (HSB.out w53 BE53.out) (by omega) ?_
              intro gb cc w54 ho hg hat lgb54
              have BE54 := hide (BE53.out.grown hg (by have := BE53.out.size; omega) (fun k hk => by injection hk; omega))
              have OB54 := hide (ho.lower gHb)
              have OA54 := hide (OA53.out.kept' fun x hx => hg.block x (OA53.out.tbI hx).lt (fun e => by simp only [Value.ownBlock, Option.some.injEq] at hx e; omega))
              have lga54 : ga < w54.heap.size := by have := hg.size; have := lga53; omega
              have BXL54 := hide (show Box w54 HL #[.slice none 0 0, .slice none 0 0, .int .i64 0, .int .i64 0, .slice none 0 0] 30 from (hg.block HL BXL53.out.lt (fun e => tb_ne BXL53.out.tb BXb53.out.tb (by decide) (by injection e))).trans BXL53.out)
              clear ho hg hat
              refine hK.out _ _ (HKX.out w54 BE54.out) (fun hHeld => ?_)
              clear hK K
              try simp only [List.getElem_toArray, List.getElem_cons_succ, List.getElem_cons_zero, Act.put, List.setIfInBounds_toArray, List.set_cons_zero, List.set_cons_succ]
              refine wpAnyH_take (i := 12) (v := ?_) rfl (by kernel_rfl) (by kernel_rfl) (by kernel_rfl) (fun _ _ _ h => h) (Or.inl ⟨by rfl, ?_⟩) (by assumption) ?_
              rotate_left
              focus
                intro w hSw
                try dsimp only at hSw
                go_simp
                try with_reducible rfl
              try simp only [List.getElem_toArray, List.getElem_cons_succ, List.getElem_cons_zero, Act.put, List.setIfInBounds_toArray, List.set_cons_zero, List.set_cons_succ]
              obtain ⟨s0, z0⟩ := BXL54.out.cell 0 (v := .slice none 0 0) rfl
              obtain ⟨s1, z1⟩ := BXL54.out.cell 1 (v := .slice none 0 0) rfl
              obtain ⟨s2, z2⟩ := BXL54.out.cell 2 (v := .int .i64 0) rfl
              obtain ⟨s3, z3⟩ := BXL54.out.cell 3 (v := .int .i64 0) rfl
              obtain ⟨s4, z4⟩ := BXL54.out.cell 4 (v := .slice none 0 0) rfl
              have lHL := BXL54.out.lt
              refine wpAnyH_ready (rs := [14]) (by kernel_rfl) (by simp) ?_
              refine AllReadyH.cons rfl (fun K hK => ?_) AllReadyH.nil
              rw [if_pos (by rfl)]
              go_simp
              have HEN := hide (HEND.out w54 HL _ _ _ _ gHL BE54.out BXL54.out OA54.out OB54.out)
              refine hK.out _ _ HEN.out.1 (fun hHeld => ?_)
              clear hK K
              try simp only [List.getElem_toArray, List.getElem_cons_succ, List.getElem_cons_zero, Act.put, List.setIfInBounds_toArray, List.set_cons_zero, List.set_cons_succ]
              refine wpAnyH_done (by kernel_rfl) ?_ _
              go_wp2_with fail
              go_meet
              case rel => exact HEN.out.2
  case rest =>
    obtain ⟨g, A1, c1, A2, c2, rfl, hg, hS, hBc⟩ := hcut
    have HSC := hide hS
    have HBC := hide hBc
    clear hS hBc
    obtain ⟨iB, hiB, bz0, bz1, bz2⟩ := info_parts info_blk13
    have HIB := hide hiB
    obtain ⟨iN, hiN, nz0, nz1, nz2⟩ := info_parts info_ins13c
    have HIN := hide hiN
    clear hiB hiN
    have hgz : h1 + 1 ≠ g := by omega
    go_wp2
    go_loopw [4] (fun i wr => ∃ (k : Nat) (v3 : Value) (l : List (List InsV × Value)), k ≤ ls ∧ i = .int .i64 (k : Int) ∧ Hid (SplC fp fr ks es w1.heap.size g (h1 + 1) (.slice A1 lk c1) (.slice A2 lb c2) v3 l w wr) ∧ Hid (l.map (·.1) = bs.take k) ∧ Hid (Below w1.heap.size w1 wr)) (fun i _ => ls - (intOf i).toNat)
    case atStart => exact ⟨0, _, [], Nat.zero_le _, rfl, HSC, hide rfl, HBC⟩
    case round =>
      obtain ⟨k, v3, l, hk', rfl, HS, HM, HB⟩ := hrel
      obtain ⟨wo, rfl⟩ : ∃ wo, wo = wr := ⟨_, rfl⟩
      have hll : l.length = k := by have h1q := congrArg List.length HM.out; rw [List.length_map, List.length_take] at h1q; have := HLS.out; omega
      have HLL := hide hll
      obtain ⟨A3, c3, hv3, -, -⟩ := HS.out.m.own.sl
      rw [hll] at hv3
      subst hv3
      have hwo1 := HB.out.size
      have lX := (HX1.out.below HB.out).lt
      have HKB := hide (fun (W : World) (hW : Below wo.heap.size wo W) => ((HX1.out.below (HB.out.trans (hW.mono hwo1))).cell 4 (v := .slice As ls cs) rfl).1)
      have c4 := HKB.out wo (Below.refl _ _)
      have lg := HS.out.bx.lt
      by_cases hlt : k < ls
      case neg =>
        obtain rfl : ls = k := by omega
        obtain ⟨x0, f0⟩ := HS.out.bx.cell 0 (v := .slice A1 lk c1) rfl
        obtain ⟨x1, f1⟩ := HS.out.bx.cell 1 (v := .slice A2 lb c2) rfl
        obtain ⟨x2, f2⟩ := HS.out.bx.cell 2 (v := .int .i64 fp) rfl
        obtain ⟨x3, f3⟩ := HS.out.bx.cell 3 (v := .int .i64 fr) rfl
        obtain ⟨x4, f4⟩ := HS.out.bx.cell 4 (v := .slice A3 ls c3) rfl
        obtain ⟨y0, g0⟩ := HS.out.bz.cell 0 (v := .slice none 0 0) rfl
        obtain ⟨y1, g1⟩ := HS.out.bz.cell 1 (v := .slice none 0 0) rfl
        obtain ⟨y2, g2⟩ := HS.out.bz.cell 2 (v := .int .i64 0) rfl
        obtain ⟨y3, g3⟩ := HS.out.bz.cell 3 (v := .int .i64 0) rfl
        obtain ⟨y4, g4⟩ := HS.out.bz.cell 4 (v := .slice none 0 0) rfl
        have ly := HS.out.bz.lt
        have hw01 : w.heap.size ≤ w1.heap.size := w1s
        have HZ := hide (HS.out.bz.end5 (v0 := .slice A1 lk c1) (v1 := .slice A2 lb c2) (v2 := .int .i64 fp) (v3 := .int .i64 fr) (v4 := .slice A3 ls c3))
        have HZA := hide ((HS.out.ok.end5 (v0 := .slice A1 lk c1) (v1 := .slice A2 lb c2) (v2 := .int .i64 fp) (v3 := .int .i64 fr) (v4 := .slice A3 ls c3) HS.out.bz.tb).lower (b := w.heap.size) hw01)
        have HZB := hide ((HS.out.oe.end5 (v0 := .slice A1 lk c1) (v1 := .slice A2 lb c2) (v2 := .int .i64 fp) (v3 := .int .i64 fr) (v4 := .slice A3 ls c3) HS.out.bz.tb).lower (b := w.heap.size) hw01)
        have HZM := hide ((HS.out.m.end5 (v0 := .slice A1 lk c1) (v1 := .slice A2 lb c2) (v2 := .int .i64 fp) (v3 := .int .i64 fr) (v4 := .slice A3 ls c3) HS.out.bz.tb).lower (b := w.heap.size) hw01)
        have HZE := hide (end5_below (h := h1 + 1) (v0 := .slice A1 lk c1) (v1 := .slice A2 lb c2) (v2 := .int .i64 fp) (v3 := .int .i64 fr) (v4 := .slice A3 ls c3) HS.out.bel (by have := HH1.out; omega))
        have HALL := hide (show l.map (·.1) = bs by rw [HM.out, List.take_of_length_le (by have := HLS.out; omega)])
        go_wp2
        (try simp only [Exit.inBlock, Exit.then])
        refine bodyPost_ret (results_cell_row rfl _ _ (h1 + 1) 30 #[.slice A1 lk c1, .slice A2 lb c2, .int .i64 fp, .int .i64 fr, .slice A3 ls c3] (0, 0) _ (by rfl) HZ.out Try.underlying30 rfl size_func) rfl ?_
        exact ⟨_, _, _, l, rfl, HZA.out, HZB.out, HZM.out, HALL.out, HZE.out⟩
      have HLT := hide hlt
      obtain ⟨y, hy⟩ : ∃ y, bs[k]? = some y := ⟨_, List.getElem?_eq_getElem (by have := HLS.out; omega)⟩
      have HTK := hide (show bs.take (k + 1) = bs.take k ++ [y] by rw [List.take_add_one, hy]; rfl)
      have HYC := hide (HCODE.out y (List.mem_of_getElem? hy))
      obtain ⟨bD, oD, A9, k9, hA4, hbD, g7, hx7⟩ := (HBK.out wo HS.out.bel).get hy
      subst hA4
      obtain ⟨m, hm⟩ : ∃ m, y.length = m := ⟨_, rfl⟩
      have HYL := hide hm
      rw [hm] at g7 hx7
      have lbD : bD < wo.heap.size := by have := HS.out.bel.size; omega
      have HG7 := hide (fun (W : World) (hW : Below wo.heap.size wo W) => (hW.cell (p := ⟨bD, oD + k, none⟩) lbD).trans g7)
      have HX7 := hide (fun (W : World) (hW : Below wo.heap.size wo W) => (hx7.keep (up hW (by have := HS.out.bel.size; omega)) (fun _ h => h) : InssV W (· < B) (.slice A9 m k9) y))
      have hk0 : (0 : Int) ≤ (k : Int) := by omega
      have hk1 : (k : Int) < (ls : Int) := by omega
      have hBo : B ≤ wo.heap.size := by have := HS.out.bel.size; omega
      clear hy hm g7 hx7
      go_wp2
      clear c4
      go_loopw [5, 6] (fun u i wr => ∃ (vc : Value) (j : Nat) (q : List (InsV × Value)), vc = u ∧ j ≤ m ∧ i = .int .i64 (j : Int) ∧ Below wo.heap.size wo wr ∧ Hid (OwC insC 50 7 wr wo.heap.size vc q) ∧ Hid (q.map (·.1) = y.take j) ∧ Hid (∀ r ∈ q, InsI wr (TB wr 3) r.2 r.1)) (fun _ i _ => m - (intOf i).toNat)
      case atStart => exact ⟨_, 0, [], rfl, Nat.zero_le _, rfl, Below.refl _ _, hide (OwC.nil _ _), hide rfl, hide (fun r hr => by cases hr)⟩
      case round =>
        obtain ⟨vc, j, q, rfl, hj, rfl, hbj, HQ, HQM, HQA⟩ := hrel
        obtain ⟨wj, rfl⟩ : ∃ wj, wj = wr := ⟨_, rfl⟩
        have hszj := hbj.size
        have HBJ := hide hbj
        clear hbj
        have hqj : q.length = j := by have h1 := congrArg List.length HQM.out; rw [List.length_map, List.length_take] at h1; have := HYL.out; omega
        have HQL := hide hqj
        obtain ⟨Ac, cc, hvc, -, -⟩ := HQ.out.sl
        rw [hqj] at hvc
        subst hvc
        have c4 := HKB.out wj HBJ.out
        have g7 := HG7.out wj HBJ.out
        have lXj : h1 < wj.heap.size := by omega
        have lbDj : bD < wj.heap.size := by omega
        have lgj : g < wj.heap.size := by omega
        by_cases hltj : j < m
        case neg =>
          obtain rfl : m = j := by omega
          have HSJ := hide (HS.out.below HBJ.out)
          obtain ⟨x4, f4⟩ := HSJ.out.bx.cell 4 (v := .slice A3 k c3) rfl
          have HOW := hide (show OwC blkC 53 1 (wj.alloc (.cells #[.slice Ac m cc] 53)) w1.heap.size (.slice A3 k c3) l from (HSJ.out.below (alloc1 wj _)).m.own)
          have HNX := hide (Box.new wj #[.slice Ac m cc] 53)
          have HCM := hide (show CodeM wj w1.heap.size (y, .slice Ac m cc) from ⟨q, by rw [HQM.out, List.take_of_length_le (by have := HYL.out; omega)], HQ.out.lower hwo1, HQA.out⟩)
          have HNEW := hide (fun (v5 : Value) (w9 : World) (ho : OwC blkC 53 1 w9 w1.heap.size v5 (l ++ [(y, .slice Ac m cc)])) (hgr : (wj.alloc (.cells #[.slice Ac m cc] 53)).grownBy w9 (Value.slice A3 k c3).ownBlock) => (show (SplC fp fr ks es w1.heap.size g (h1 + 1) (.slice A1 lk c1) (.slice A2 lb c2) v5 (l ++ [(y, .slice Ac m cc)]) w (w9.setCell ⟨g, 4, none⟩ v5) ∧ Box w9 g #[.slice A1 lk c1, .slice A2 lb c2, .int .i64 fp, .int .i64 fr, .slice A3 k c3] 30) ∧ Below w1.heap.size w1 (w9.setCell ⟨g, 4, none⟩ v5) from by
            have hb4 : Below wj.heap.size wj (wj.alloc (.cells #[.slice Ac m cc] 53)) := alloc1 wj _
            have hcm4 : CodeM (wj.alloc (.cells #[.slice Ac m cc] 53)) w1.heap.size (y, .slice Ac m cc) := HCM.out.keep (M := fun _ => False) (fun b hb _ => hb4.block b hb) (fun _ _ h => h) (fun _ _ h => h)
            have hTB := (HSJ.out.below hb4).m.own.row
            have hcm9 : CodeM w9 w1.heap.size (y, .slice Ac m cc) := hcm4.keep (M := fun b => (Value.slice A3 k c3).ownBlock = some b) (fun b hb hn => hgr.block b hb (fun e => hn e.symm)) (fun g' hg' e => tb_ne (hcm4.own g' hg').2 (hTB _ e) (by decide) rfl) (fun b hb e => tb_ne hb (hTB _ e) (by decide) rfl)
            refine ⟨HS.out.appC w1s hg hgz (HBJ.out.trans (hb4.mono hszj)) hgr ho hcm9 (fun g' hg' => (HQ.out.lt g' hg').1), ?_⟩
            exact Below.setCell (((HB.out.trans (HBJ.out.mono hwo1)).trans (hb4.mono (by omega))).grown hgr (by simp only [World.size_alloc]; omega) (fun k' hk' => by have := (HS.out.m.own.lt k' hk').1; omega)) (by show _ ≤ g; omega) _))
          have hroom : k < 1000000 := by omega
          go_wp2_with (at_builtin; refine wpList_append_c (c := blkC) (sz := 1) (wj.alloc (.cells #[.slice Ac m cc] 53)) (by rfl) _ _ _ (by rfl) w1.heap.size iB _ 24 Try.underlying28 HIB.out bz0 bz1 bz2 rfl (by omega) (by omega) (.slice A3 k c3) l k HLL.out (by rfl) HOW.out (y, .slice Ac m cc) rfl (by intro u hu; simp [blkC] at hu; subst hu; rfl) wj.heap.size _ HNX.out rfl (by rfl) hroom (by simp only [World.size_alloc]; omega) ?_; intro g9 c9 w9 ho9 hg9 ha9 hl9; obtain ⟨⟨hwn, hbx⟩, hbl9⟩ := HNEW.out _ w9 ho9 hg9; have HA9 := hide hwn; have HBL9 := hide hbl9; obtain ⟨x4', f4'⟩ := hbx.cell 4 (v := .slice A3 k c3) rfl; have lx9 := hbx.lt; clear ho9 hg9 hwn hbx hbl9)
          go_roundw
          case rel => exact ⟨k + 1, _, _, by have := HLT.out; omega, by go_num, HA9, hide (by rw [HTK.out, List.map_append, HM.out]; rfl), HBL9⟩
          case measure => have := HLT.out; simp [intOf]; omega
        have HLTJ := hide hltj
        obtain ⟨x, hx⟩ : ∃ x, y[j]? = some x := ⟨_, List.getElem?_eq_getElem (by have := HYL.out; omega)⟩
        have HTJ := hide (show y.take (j + 1) = y.take j ++ [x] by rw [List.take_add_one, hx]; rfl)
        have hxa := HYC.out.2 x (List.mem_of_getElem? hx)
        obtain ⟨bF, oF, A8, k8, hA9, hbF, ⟨q0, q1, q2, q3, q4, q5, q6⟩, hxi⟩ := (HX7.out wj HBJ.out).get hx
        subst hA9
        obtain ⟨-, -, -, -, -, -, hR⟩ := (show IntsV wj (· < B) _ _ from hxi.1).sl
        obtain ⟨la, hla⟩ : ∃ la, x.args.length = la := ⟨_, rfl⟩
        have HLA := hide hla
        have HRX := hide hxi.2
        have HAR := hide hR
        rw [hla] at q6 hxa
        have lbF : bF < wj.heap.size := by omega
        have hj0 : (0 : Int) ≤ (j : Int) := by omega
        have hj1 : (j : Int) < (m : Int) := by omega
        have hmm := HYC.out.1
        have hroomj : j < 1000000 := by have := HYL.out; omega
        have HXV := hide (show IntsV wj (· < B) (.slice A8 x.args.length k8) x.args from hxi.1)
        clear hx hla hxi hR
        have HIA := hide (fun (W : World) (hW : Below wj.heap.size wj W) => (show Sl W B .i64 A8 x.args from by
          obtain ⟨A', c', e, -, -, h, -⟩ := (show IntsV W (· < B) (.slice A8 x.args.length k8) x.args from (IntsV.keep HXV.out (up hW (by omega)) (fun _ h => h))).sl
          injection e with e1 _ _
          subst e1
          exact h))
        go_upto_region 10 with (fail)
        obtain ⟨w9, hw9⟩ : ∃ w9, w9 = wj.alloc (.cells #[.int .i64 x.op, .int .i64 x.d, .int .i64 x.a, .int .i64 x.b, .int .i64 x.n, .int .i64 x.m, .slice A8 la k8] 50) := ⟨_, rfl⟩
        obtain ⟨h7, hh7⟩ : ∃ h7, wj.heap.size = h7 := ⟨_, rfl⟩
        have HX9 := hide (show Box w9 h7 #[.int .i64 x.op, .int .i64 x.d, .int .i64 x.a, .int .i64 x.b, .int .i64 x.n, .int .i64 x.m, .slice A8 la k8] 50 by rw [hw9, ← hh7]; exact Box.new wj _ _)
        have HB9 := hide (show Below wj.heap.size wj w9 by rw [hw9]; exact alloc1 wj _)
        have HH7 := hide hh7
        rw [← hw9, hh7]
        clear hw9 hh7 c4 g7 q0 q1 q2 q3 q4 q5 q6
        have l7 := HX9.out.lt
        have z6 := (HX9.out.cell 6 (v := .slice A8 la k8) rfl).1
        have HOL := hide (Ow.lit13 (B := w9.heap.size) (Box.new w9 #[] 3) (Nat.le_refl _))
        have HSA := hide (HIA.out (w9.alloc (.cells #[] 3)) (HB9.out.alloc HB9.out.size _))
        go_upto_region 11 with (at_builtin; refine wpList_append_slW _ (by rfl) _ _ _ (by rfl) w9.heap.size 3 .i64 i0 _ 8 Try.underlying27 HI.out iz0 iz1 iz2 rfl (by omega) _ [] (by rfl) HOL.out B A8 la k8 x.args (by rfl) HLA.out HSA.out (by simp only [List.length_nil]; omega) (by simp only [World.size_alloc]; omega) ?_; intro v5 w10 ho5 hb5; obtain ⟨A5, c5, hv5, -, -, -⟩ := ho5.sl; rw [List.nil_append, HLA.out] at hv5; subst hv5; have HO5 := hide ho5; have HB5 := hide hb5; have hx10 := (HX9.out.alloc (.cells #[] 3)).belowB hb5 l7; have HX10 := hide hx10; obtain ⟨y6, yf6⟩ := hx10.cell 6 (v := .slice A8 la k8) rfl; have l710 := hx10.lt; clear ho5 hb5 hx10)
        obtain ⟨w11, hw11⟩ : ∃ w11, w11 = w10.setCell ⟨h7, 6, none⟩ (.slice A5 la c5) := ⟨_, rfl⟩
        have HX11 := hide (show Box w11 h7 #[.int .i64 x.op, .int .i64 x.d, .int .i64 x.a, .int .i64 x.b, .int .i64 x.n, .int .i64 x.m, .slice A5 la c5] 50 by rw [hw11]; have t := HX10.out.set 6 (.slice A5 la c5); simpa using t)
        have HO11 := hide (show Ow w11 w9.heap.size 3 .i64 (.slice A5 la c5) x.args by rw [hw11]; have t := HO5.out; rw [List.nil_append] at t; exact t.kept' fun g' hg' => heap_setCell_other w10 ⟨h7, 6, none⟩ g' _ (by have := (t.row' g' hg').1; show g' ≠ h7; omega))
        have HB11 := hide (show Below wj.heap.size wj w11 by rw [hw11]; exact Below.setCell ((HB9.out.alloc HB9.out.size _).trans (HB5.out.mono HB9.out.size)) (by show _ ≤ h7; have := HH7.out; omega) _)
        rw [← hw11]
        clear hw11 y6 yf6 z6
        have l711 := HX11.out.lt
        have u0 := (HX11.out.cell 0 (v := .int .i64 x.op) rfl).1
        have u1 := (HX11.out.cell 1 (v := .int .i64 x.d) rfl).1
        have u2 := (HX11.out.cell 2 (v := .int .i64 x.a) rfl).1
        have u3 := (HX11.out.cell 3 (v := .int .i64 x.b) rfl).1
        have u4 := (HX11.out.cell 4 (v := .int .i64 x.n) rfl).1
        have u5 := (HX11.out.cell 5 (v := .int .i64 x.m) rfl).1
        have u6 := (HX11.out.cell 6 (v := .slice A5 la c5) rfl).1
        have HQ11 := hide (HQ.out.kept (w' := w11) (fun g' hg' => HB11.out.block g' (HQ.out.lt g' hg').2))
        have HOW := hide (show OwC insC 50 7 (w11.alloc (.cells #[.int .i64 x.op, .int .i64 x.d, .int .i64 x.a, .int .i64 x.b, .int .i64 x.n, .int .i64 x.m, .slice A5 la c5] 50)) wo.heap.size (.slice Ac j cc) q from HQ11.out.below (alloc1 w11 _))
        have HNX := hide (Box.new w11 #[.int .i64 x.op, .int .i64 x.d, .int .i64 x.a, .int .i64 x.b, .int .i64 x.n, .int .i64 x.m, .slice A5 la c5] 50)
        have HNEW := hide (fun (w12 : World) (hgr : (w11.alloc (.cells #[.int .i64 x.op, .int .i64 x.d, .int .i64 x.a, .int .i64 x.b, .int .i64 x.n, .int .i64 x.m, .slice A5 la c5] 50)).grownBy w12 (Value.slice Ac j cc).ownBlock) => (show (∀ r ∈ q ++ [(x, Value.slice A5 la c5)], InsI w12 (TB w12 3) r.2 r.1) ∧ Below wo.heap.size wo w12 from by
          have hb4 : Below w11.heap.size w11 (w11.alloc (.cells #[.int .i64 x.op, .int .i64 x.d, .int .i64 x.a, .int .i64 x.b, .int .i64 x.n, .int .i64 x.m, .slice A5 la c5] 50)) := alloc1 w11 _
          have hTI : ∀ b', (Value.slice Ac j cc).ownBlock = some b' → TB w11 50 b' := fun b' h => HQ11.out.row b' h
          have hk : ∀ b', b' < w11.heap.size → ¬ (Value.slice Ac j cc).ownBlock = some b' → w12.heap[b']? = w11.heap[b']? := fun b' hb hn => (hgr.block b' (by have := hb4.size; omega) (fun e => hn e.symm)).trans (hb4.block b' hb)
          refine ⟨fun r hr => ?_, ((HBJ.out.trans (HB11.out.mono hszj)).trans (hb4.mono (by have := HB11.out.size; omega))).grown hgr (by have := HB11.out.size; have := hb4.size; omega) (fun k' hk' => by have := (HQ.out.lt k' hk').1; omega)⟩
          rcases List.mem_append.1 hr with hr | hr
          · have t1 := argsI_keep (w' := w11) (M := fun _ => False) (HQA.out r hr) (fun b' hb _ => HB11.out.block b' hb) (fun _ _ h => h)
            exact argsI_keep (M := fun b' => (Value.slice Ac j cc).ownBlock = some b') t1 hk (fun b' hb e => tb_ne hb (hTI b' e) (by decide) rfl)
          · simp at hr
            subst hr
            have t2 : Ow w12 w9.heap.size 3 .i64 (.slice A5 la c5) x.args := HO11.out.kept' fun g' hg' => hk g' (HO11.out.tbI hg').lt (fun e => tb_ne (HO11.out.tbI hg') (hTI g' e) (by decide) rfl)
            exact ⟨ints_vec t2 HAR.out (fun b' hb => t2.tbI hb), HRX.out⟩))
        go_wp2_with (at_builtin; refine wpList_append_c (c := insC) (sz := 7) (w11.alloc (.cells #[.int .i64 x.op, .int .i64 x.d, .int .i64 x.a, .int .i64 x.b, .int .i64 x.n, .int .i64 x.m, .slice A5 la c5] 50)) (by rfl) _ _ _ (by rfl) wo.heap.size iN _ 72 Try.underlying51 HIN.out nz0 nz1 nz2 rfl (by omega) (by omega) (.slice Ac j cc) q j HQL.out (by rfl) HOW.out (x, .slice A5 la c5) rfl (by intro u hu; simp [insC] at hu; rcases hu with rfl | rfl | rfl | rfl | rfl | rfl | rfl <;> rfl) w11.heap.size _ HNX.out rfl (by rfl) hroomj (by simp only [World.size_alloc]; have := HB11.out.size; omega) ?_; intro g12 c12 w12 ho12 hg12 ha12 hl12; obtain ⟨hn1, hn2⟩ := HNEW.out w12 hg12; have HN1 := hide hn1; have HN2 := hide hn2; have HO12 := hide ho12; clear ho12 hg12 hn1 hn2)
        go_roundw
        case rel => exact ⟨_, j + 1, q ++ [(x, .slice A5 la c5)], rfl, by have := HLTJ.out; omega, by go_num, HN2.out, HO12, hide (by rw [HTJ.out, List.map_append, HQM.out]; rfl), HN1⟩
        case measure => have := HLTJ.out; simp [intOf]; omega
end Go.Proofs.Ytnoknodijombpaa
