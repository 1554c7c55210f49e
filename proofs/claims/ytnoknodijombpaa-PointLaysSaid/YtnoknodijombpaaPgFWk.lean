/- The statement FlowWalks, walked: it answers true. Condition: no slice of the program is longer than any machine's memory. -/
import Derived.Test.YtnoknodijombpaaPgYQ
import Derived.Test.YtnoknodijombpaaPgNS
import Derived.Test.YtnoknodijombpaaPgZN
import Derived.Maps.AppendAt
set_option linter.unusedSimpArgs false
set_option linter.unusedVariables false
namespace Go.Proofs.Ytnoknodijombpaa
open Go.RowKit
attribute [local go_sem ↓] Go.wp_at_zero Go.wp_at_succ

/-- append(v, y) at a plain region, v the call's own: what stays as it was. -/
theorem wpList_append_at {P : Program} (w : World) {ops : Array Oper} {rest : List Oper} {o : Oper} {a : Act} {Q : Exit → Act → World → Prop} (hgd : o.guard = none) (s x : Operand) (t : TypeId)
    (ho : o.op = .call { callee := .builtin .append, args := #[s, x], argTypes := #[t, t] })
    (base : Nat) (i : TypeInfo) (z : Value) (ht : P.underlying t = some (.slice 3)) (hi : P.info? 3 = some i) (hz : i.zero = some z)
    (hsize : i.size = 1) (hby : i.bytes = 8) (hzs : z.cells.size = 1)
    (v : Value) (zs : List Int) (hs : a.eval s = v) (hown : Ow w base 3 .i64 v zs) (y : Int)
    (hx : a.eval x = .slice (some ⟨w.heap.size, 0, none⟩) 1 1)
    (hroom : zs.length < 1000000) (hbase : base ≤ w.heap.size)
    (h : ∀ v' w', Ow w' base 3 .i64 v' (zs ++ [y]) → (w.alloc (.cells #[.int .i64 y] 3)).grownBy w' v.ownBlock → (v'.ownBlock = v.ownBlock ∨ v'.ownBlock = some (w.heap.size + 1)) → wpList P ops Q rest (a.put o.dst v') w') :
    wpList P ops Q (o :: rest) a (w.alloc (.cells #[.int .i64 y] 3)) := by
  refine wpList_plain hgd fun K hK => ?_
  have hown' : (w.alloc (.cells #[.int .i64 y] 3)).ownsRow base 3 1 v zs.length (zs.map (Value.int .i64)) := World.ownsRow.alloc hown _
  obtain ⟨v', w', hrun, h2, h3, -, h5⟩ := run_append_own_at (P := P) (w.alloc (.cells #[.int .i64 y] 3)) base t o.type 3 i z 1 8 ht hi hz hsize hby hzs (by omega) v zs.length (zs.map (Value.int .i64)) hown'
    ⟨w.heap.size, 0, none⟩ 1 1 [.int .i64 y] rfl
    (fun j u hu => by
      rw [Addr.add_lit, cell_of_row (w.alloc (.cells #[.int .i64 y] 3)) w.heap.size (0 + j) _ _ (0, 0) (heap_alloc_new w _), Nat.zero_add, ← Array.getElem?_toList]
      exact hu) (by intro u hu; simp at hu; subst hu; rfl) (by simp only [maxLen]; omega) (by omega) (by simp only [World.size_alloc]; omega)
  unfold Oper.wp execOp
  simp only [ho, resolve, invoke, builtin, Sem.run_bind, Sem.run_pure, Result.andThen_ok, List.map_toArray, List.map_cons, List.map_nil, hs, hx, hrun]
  refine hK _ _ (h v' w' ?_ h3 (by simpa only [World.size_alloc] using h5))
  unfold Ow
  rw [List.map_append, List.length_append]
  exact h2
/-- All blocks but bm and the list's own are as they were. -/
structure FrL (bm : Nat) (own : Option Nat) (w w' : World) : Prop where
  os : w'.os = w.os
  tape : w'.tape = w.tape
  output : w'.output = w.output
  size : w.heap.size ≤ w'.heap.size
  block : ∀ k, k < w.heap.size → k ≠ bm → own ≠ some k → w'.heap[k]? = w.heap[k]?
theorem FrL.of_below {bm : Nat} {own : Option Nat} {w w' : World} (h : Below w.heap.size w w') : FrL bm own w w' := ⟨h.os, h.tape, h.output, h.size, fun k hk _ _ => h.block k hk⟩
theorem FrL.trans {bm : Nat} {own own1 : Option Nat} {w w1 w2 : World} (h : FrL bm own w w1) (h2 : FrL bm own1 w1 w2) (ho : own1 = own ∨ ∃ g, own1 = some g ∧ w.heap.size ≤ g) : FrL bm own w w2 :=
  ⟨h2.os.trans h.os, h2.tape.trans h.tape, h2.output.trans h.output, Nat.le_trans h.size h2.size, fun k hk hb ho' => (h2.block k (Nat.lt_of_lt_of_le hk h.size) hb (fun e => by
    rcases ho with rfl | ⟨g, rfl, hg⟩
    · exact ho' e
    · injection e with e; omega)).trans (h.block k hk hb ho')⟩
theorem FrL.set {bm j : Nat} {own : Option Nat} {w w1 : World} {v : Value} (h : FrL bm own w w1) : FrL bm own w (w1.setCell ⟨bm, j, none⟩ v) :=
  ⟨h.os, h.tape, h.output, by rw [World.size_setCell]; exact h.size, fun k hk hb ho => (heap_setCell_other w1 ⟨bm, j, none⟩ k v hb).trans (h.block k hk hb ho)⟩
theorem FrL.box {bm k : Nat} {own : Option Nat} {w w1 : World} {cs : Array Value} {T : TypeId} (h : FrL bm own w w1) (b : Box w k cs T) (hk : k ≠ bm) (ho : own ≠ some k) : Box w1 k cs T := (h.block k b.lt hk ho).trans b
theorem Dfs.split {f : FunV} {c : Int} {cs : List Int} {m : List Bool} {l : List Int} {m' : List Bool} {l' : List Int} (h : Dfs f (c :: cs) m l m' l') : ∃ m1 l1, Dfs f [c] m l m1 l1 ∧ Dfs f cs m1 l1 m' l' := by
  cases h with
  | old hm h => exact ⟨m, l, .old hm (.nil m l), h⟩
  | new hm h1 h2 => exact ⟨_, _, .new hm h1 (.nil _ _), h2⟩
theorem Dfs.less {f : FunV} {cs : List Int} {m : List Bool} {l : List Int} {m' : List Bool} {l' : List Int} (h : Dfs f cs m l m' l') (hok : FlowOk f) (hm : m.length = f.blocks.length) (hc : ∀ c ∈ cs, 0 ≤ c ∧ c < f.blocks.length) : m'.length = f.blocks.length ∧ m'.count false ≤ m.count false ∧ l'.length + m'.count false = l.length + m.count false := by
  obtain ⟨a1, a2⟩ := h.fewer hok.2.2 hm hc
  obtain ⟨new, rfl, -⟩ := h.spec hok.2.2 hm hc
  rw [List.length_append] at a1
  exact ⟨by rw [a2, hm], by omega, by rw [List.length_append]; omega⟩
def WkL (f : FunV) (bm base : Nat) (vl : Value) (w3 : World) (nx : List Int) (u n : Nat) (m1 : List Bool) (l1 : List Int) (k : Nat) (v : Value) (wr : World) : Prop :=
  ∃ mk lk, Dfs f (nx.drop k) mk lk m1 l1 ∧ mk.length = n ∧ mk.count false < u ∧ lk.length + mk.count false ≤ 40 ∧ MB wr bm mk ∧ Ow wr base 3 .i64 v lk ∧ (v.ownBlock = vl.ownBlock ∨ ∃ g, v.ownBlock = some g ∧ w3.heap.size ≤ g) ∧ FrL bm vl.ownBlock w3 wr
set_option maxHeartbeats 4000000 in
set_option maxRecDepth 100000 in
theorem rwalk_any (vk vb vs : Value) (f : FunV) (hok : FlowOk f) (bm base B : Nat) (hBb : B ≤ bm) (hBs : B ≤ base) : ∀ (u : Nat) (b : Nat) (m : List Bool) (l : List Int) (m' : List Bool) (l' : List Int) (w : World) (vl : Value),
    m.count false = u → Dfs f [(b : Int)] m l m' l' → m.length = f.blocks.length → b < f.blocks.length → l.length + m.count false ≤ 40 → base ≤ w.heap.size → FunI w (· < B) vk vb vs f → MB w bm m → Ow w base 3 .i64 vl l →
    Calls Try.prog 77 #[.agg #[vk, vb, .int .i64 f.params, .int .i64 f.result, vs], .int .i64 (b : Int), .slice (some ⟨bm, 0, none⟩) f.blocks.length f.blocks.length, vl] w fun e w' => ∃ v', e = .returned v' ∧ MB w' bm m' ∧ Ow w' base 3 .i64 v' l' ∧ (v'.ownBlock = vl.ownBlock ∨ ∃ g, v'.ownBlock = some g ∧ w.heap.size ≤ g) ∧ FrL bm vl.ownBlock w w' := by
  intro u
  induction u using Nat.strongRecOn with
  | ind u ih =>
  intro b m l m' l' w vl hmu hD hml hbn hlc hbase hi hMB hO
  have HIH := hide ih
  have HFI := hide hi
  obtain ⟨i0, hi0, hz0, hz1, hz2⟩ := info_parts info_i64
  have HI := hide hi0
  have hnr := hok.2.2
  have hls40 := hok.1
  have HNR := hide hnr
  have HNX := hide (fun (W : World) (hW : FunI W (· < B) vk vb vs f) (hBW : B ≤ W.heap.size) => (show Calls Try.prog 39 #[.agg #[vk, vb, .int .i64 f.params, .int .i64 f.result, vs], .int .i64 (b : Int)] W fun e w' => ∃ A c, e = .returned (.slice A (nxt f b).length c) ∧ Sl w' w'.heap.size .i64 A (nxt f b) ∧ (nxt f b).length ≤ c ∧ c ≤ 2 ∧ (∀ b o, A = some ⟨b, o, none⟩ → W.heap.size ≤ b) ∧ Below W.heap.size W w' by
    have h := rnextN_any _ _ _ f (b : Int) W B hBW hW hok
    rw [nxtI_nat hbn] at h
    exact h))
  have HLS := hide (fun (cs : List Int) (m : List Bool) (l : List Int) (m' : List Bool) (l' : List Int) (h : Dfs f cs m l m' l') hm hc => h.less hok hm hc)
  obtain ⟨Ak, ck, rfl, hck, hmk⟩ := hi.1.open'
  obtain ⟨Ab, cb, rfl, hcb, hmb⟩ := hi.2.1.open'
  obtain ⟨As, cs, rfl, hcs, hms⟩ := hi.2.2.1.open'
  have HMB := hide hMB
  have HOW := hide hO
  have hbml := Box.lt hMB
  obtain ⟨Al, cl, rfl, hcl, hclm, -⟩ := hO.sl
  obtain ⟨mc, mf⟩ := hMB.cell (b := b) (by omega)
  obtain ⟨ll, hll⟩ : ∃ ll, l.length = ll := ⟨_, rfl⟩
  have HLL := hide hll
  obtain ⟨ls, hls⟩ : ∃ ls, f.blocks.length = ls := ⟨_, rfl⟩
  have HLSE := hide hls
  have HML := hide hml
  have HMU := hide hmu
  rw [hll] at hcl hlc ⊢
  rw [hls] at hbn hls40 hcs HNX HIH ⊢
  rw [hls] at hml
  rw [hll] at HOW
  obtain ⟨own, hown⟩ : ∃ own, (Value.slice Al ll cl).ownBlock = own := ⟨_, rfl⟩
  have HOWN := hide hown
  have HLT := hide (fun g (h : own = some g) => (HOW.out.row' g (by rw [hown]; exact h)).2.1)
  have hj1 : ¬ (b : Int) < 0 := by omega
  have hj2 : ¬ ls ≤ b := by omega
  have hj3 : ¬ (ls : Int) ≤ (b : Int) := by omega
  have hj4 : (0 : Int) ≤ (b : Int) := by omega
  have hj5 : (b : Int) < (ls : Int) := by omega
  generalize f.kinds.length = lk, f.base.length = lb, f.params = fp, f.result = fr at *
  by_cases hmt : metB m (b : Int) = true
  · rw [hmt] at mc
    have HE := hide (show m = m' ∧ l = l' by
      cases hD with
      | old _ h => cases h; exact ⟨rfl, rfl⟩
      | new h _ _ => rw [hmt] at h; cases h)
    clear hi hok hnr hi0 hMB hO ih hD hml hmu hll hls hmt hown HIH
    go_enter Try.func77, Try.ntmps77
    go_upto_region 1 with (fail)
    obtain ⟨w1, hw1⟩ : ∃ w1, w1 = w.alloc (.cells #[.slice Ak lk ck, .slice Ab lb cb, .int .i64 fp, .int .i64 fr, .slice As ls cs] 30) := ⟨_, rfl⟩
    have HB1 := hide (show Below w.heap.size w w1 by rw [hw1]; exact alloc1 w _)
    have mc1 := (HB1.out.cell (p := ⟨bm, b, none⟩) hbml).trans mc
    rw [← hw1]
    clear hw1 mc
    have hbm1 : bm < w1.heap.size := by have := HB1.out.size; omega
    go_wp2
    go_ret
    refine ⟨_, rfl, ?_, ?_, .inl rfl, FrL.of_below HB1.out⟩
    · rw [← HE.out.1]; exact Box.below HMB.out HB1.out
    · rw [← HE.out.2]; exact HOW.out.below HB1.out
  · have hmf := Bool.eq_false_iff.2 hmt
    rw [hmf] at mc
    obtain ⟨m1, l1, hD1, rfl, rfl⟩ : ∃ m1 l1, Dfs f (nxt f b) (meet m (b : Int)) l m1 l1 ∧ m1 = m' ∧ l' = l1 ++ [(b : Int)] := by
      cases hD with
      | old h _ => exact absurd h hmt
      | new _ h h2 => cases h2; exact ⟨_, _, by simpa using h, rfl, rfl⟩
    have HMF := hide hmf
    have hcm := count_meet (m := m) (c := (b : Int)) (by have := HML.out; have := HLSE.out; simpa using (by omega : b < m.length)) hmf
    have hnl2 := nxt_len f b
    have HD0 := hide (show Dfs f ((nxt f b).drop 0) (meet m (b : Int)) l m1 l1 from hD1)
    have HRG := hide (fun v hv => HNR.out b v hv)
    obtain ⟨nx, hnx⟩ : ∃ nx, nxt f b = nx := ⟨_, rfl⟩
    rw [hnx] at HNX hnl2 HD0 HRG
    obtain ⟨n3, hn3⟩ : ∃ n, nx.length = n := ⟨_, rfl⟩
    have HN3 := hide hn3
    rw [hn3] at HNX hnl2
    have HCM := hide (show (meet m (b : Int)).count false < u ∧ ll + (meet m (b : Int)).count false ≤ 40 by have := HMU.out; omega)
    have HMM := hide (show (meet m (b : Int)).length = f.blocks.length by rw [meet_len]; exact HML.out)
    have HL1 := hide (show l1.length ≤ 40 by
      have h := HLS.out _ _ _ _ _ HD0.out HMM.out (fun c hc => HRG.out c (by simpa using hc))
      have := HLL.out; have := HCM.out; omega)
    clear hi hok hnr hi0 hMB hO ih hD hD1 hml hmu hll hls hmt hmf hown hnx hn3 hcm
    go_enter Try.func77, Try.ntmps77
    go_upto_region 1 with (fail)
    obtain ⟨w1, hw1⟩ : ∃ w1, w1 = w.alloc (.cells #[.slice Ak lk ck, .slice Ab lb cb, .int .i64 fp, .int .i64 fr, .slice As ls cs] 30) := ⟨_, rfl⟩
    obtain ⟨h5, hh5⟩ : ∃ h5, w.heap.size = h5 := ⟨_, rfl⟩
    have HX1 := hide (show Box w1 h5 #[.slice Ak lk ck, .slice Ab lb cb, .int .i64 fp, .int .i64 fr, .slice As ls cs] 30 by rw [hw1, ← hh5]; exact Box.new w _ _)
    have HB1 := hide (show Below w.heap.size w w1 by rw [hw1]; exact alloc1 w _)
    have HM1 := hide (show MB w1 bm m from Box.below HMB.out HB1.out)
    have hs1 : w1.heap.size = h5 + 1 := by rw [hw1, World.size_alloc, hh5]
    have HS1 := hide hs1
    have HH5 := hide hh5
    have hbm5 : bm < h5 := by omega
    have hbb5 : base ≤ h5 := by omega
    rw [← hw1, hh5]
    clear hw1 hh5 mc mf hbml hs1 hbase
    obtain ⟨mc, mf⟩ := HM1.out.cell (b := b) (by have := HML.out; have := HLSE.out; omega)
    have l1' := HX1.out.lt
    have hbm1 : bm < w1.heap.size := by omega
    rw [HMF.out] at mc
    go_upto_region 4 with (fail)
    obtain ⟨w2, hw2⟩ : ∃ w2, w2 = w1.setCell ⟨bm, b, none⟩ (.bool true) := ⟨_, rfl⟩
    have hgb : own ≠ some bm := fun e => by
      have h := (HOW.out.apart HMB.out (by decide))
      rw [HOWN.out] at h
      exact h e
    have HM2 := hide (show MB w2 bm (meet m (b : Int)) by rw [hw2]; exact HM1.out.set b)
    have HX2 := hide (show Box w2 h5 #[.slice Ak lk ck, .slice Ab lb cb, .int .i64 fp, .int .i64 fr, .slice As ls cs] 30 by rw [hw2]; exact HX1.out.other (by omega))
    have HF2 := hide (show FrL bm own w w2 by rw [hw2]; exact (FrL.of_below HB1.out).set)
    have HO2 := hide (show Ow w2 base 3 .i64 (.slice Al ll cl) l from HOW.out.kept' fun g hg => by
      rw [HOWN.out] at hg
      rw [hw2]
      exact (heap_setCell_other w1 ⟨bm, b, none⟩ g _ (fun e => hgb (by rw [hg, e]))).trans (HB1.out.block g (HLT.out g hg)))
    have hs2 : w2.heap.size = w1.heap.size := by rw [hw2, World.size_setCell]
    have hs1 := HS1.out
    have hwh := HH5.out
    have HKB := hide (fun (W : World) (hF : FrL bm own w W) => (show FunI W (· < B) (.slice Ak lk ck) (.slice Ab lb cb) (.slice As ls cs) f from by
      have h := HFI.out.keep (w' := W) (S' := (· < B)) (fun k o hk => World.cell?_of_block (a := ⟨k, o, none⟩) (hF.block k (by have : k < B := hk; omega) (by have : k < B := hk; omega) (fun e => by
        have := (HOW.out.row' k (by rw [HOWN.out]; exact e)).1
        have : k < B := hk
        omega))) (fun _ h => h)
      rw [HLSE.out] at h
      exact h))
    rw [← hw2]
    clear hw2 mc mf
    have l2 := HX2.out.lt
    have c0 := (HX2.out.cell 0 (v := .slice Ak lk ck) rfl).1
    have c1 := (HX2.out.cell 1 (v := .slice Ab lb cb) rfl).1
    have c2 := (HX2.out.cell 2 (v := .int .i64 fp) rfl).1
    have c3 := (HX2.out.cell 3 (v := .int .i64 fr) rfl).1
    have c4 := (HX2.out.cell 4 (v := .slice As ls cs) rfl).1
    have HNC := hide (HNX.out w2 (HKB.out w2 HF2.out) (by omega))
    go_wp2_with (go_at_call 39; refine (HNC.out).mono ?_; rintro e w3 ⟨A3, k3, rfl, hs3, hl3, hm3, ha3, hb3⟩; have HS3 := hide hs3; have HB3 := hide hb3; have HA3 := hide ha3; have hz3 := hb3.size; clear hs3 hb3 ha3 c0 c1 c2 c3 c4)
    have HF3 := hide (HF2.out.trans (FrL.of_below (bm := bm) (own := own) HB3.out) (.inl rfl))
    have HX3 := hide (HX2.out.below HB3.out)
    have HW0 := hide (show WkL f bm base (.slice Al ll cl) w3 nx u f.blocks.length m1 l1 0 (.slice Al ll cl) w3 from ⟨meet m (b : Int), l, HD0.out, HMM.out, HCM.out.1, by have := HCM.out.2; have := HLL.out; omega, Box.below HM2.out HB3.out, HO2.out.below HB3.out, .inl rfl, FrL.of_below (Below.refl _ _)⟩)
    go_wp2
    go_loopw [3, 10] (fun lv i wr => ∃ (v : Value) (k : Nat), v = lv ∧ k ≤ n3 ∧ i = .int .i64 (k : Int) ∧ Hid (WkL f bm base (.slice Al ll cl) w3 nx u f.blocks.length m1 l1 k v wr)) (fun _ i _ => n3 - (intOf i).toNat)
    case atStart => exact ⟨_, 0, rfl, Nat.zero_le _, rfl, HW0⟩
    case round =>
      obtain ⟨v, k, rfl, hk, rfl, hin⟩ := hrel
      obtain ⟨wo, rfl⟩ : ∃ wo, wo = wr := ⟨_, rfl⟩
      obtain ⟨mk, lk', hDk, hmkl, hmku, hlk, hMk, hOk, hvk, hFk⟩ := hin.out
      rw [HOWN.out] at hvk hFk
      have hzo := hFk.size
      have HMk := hide hMk
      have HOk := hide hOk
      have HVk := hide hvk
      have HFk := hide hFk
      have hvn : ∀ g, g < w3.heap.size → own ≠ some g → v.ownBlock ≠ some g := fun g hg ho e => by
        rcases HVk.out with h | ⟨g', h, h2⟩
        · rw [h] at e; exact ho e
        · rw [h] at e; injection e with e; omega
      have HVN := hide hvn
      have hown5 : own ≠ some h5 := fun e => by have := HLT.out h5 e; omega
      have HX4 := hide (HFk.out.box HX3.out (by omega) hown5)
      clear hin hMk hOk hvk hFk hvn
      by_cases hlt : k < n3
      case neg =>
        obtain ⟨rfl, rfl⟩ : mk = m1 ∧ lk' = l1 := by
          rw [List.drop_eq_nil_of_le (by have := HN3.out; omega)] at hDk
          cases hDk
          exact ⟨rfl, rfl⟩
        have hvb : v.ownBlock ≠ some bm := HOk.out.apart HMk.out (by decide)
        have HVB := hide hvb
        have HRO := hide (show lk'.length < 1000000 by omega)
        have hbo : base ≤ wo.heap.size := by omega
        clear hDk hmkl hmku hlk hvb
        go_wp2_with (at_builtin; refine wpList_append_at wo rfl (.tmp 46) (.tmp 48) _ rfl base i0 _ Try.underlying27 HI.out hz0 hz1 hz2 rfl v lk' (by rfl) HOk.out (b : Int) (by rfl) HRO.out hbo ?_; intro v5 w5 ho5 hg5 hv5)
        go_ret
        have hF5 : FrL bm v.ownBlock wo w5 := ⟨hg5.os, hg5.tape, hg5.output, by have := hg5.size; simp only [World.size_alloc] at this; omega, fun q hq _ ho => (hg5.block q (by simp only [World.size_alloc]; omega) (fun e => ho e.symm)).trans (Below.heap_alloc _ _ _ hq)⟩
        rw [HOWN.out]
        refine ⟨v5, rfl, ?_, ho5, ?_, ?_⟩
        · exact (hg5.block bm (by have := Box.lt HMk.out; simp only [World.size_alloc]; omega) (fun e => HVB.out e.symm)).trans ((Below.heap_alloc _ _ _ (Box.lt HMk.out)).trans HMk.out)
        · rcases hv5 with h | h
          · rcases HVk.out with h2 | ⟨g, h2, h3⟩
            · exact .inl (by rw [h, h2])
            · exact .inr ⟨g, by rw [h, h2], by omega⟩
          · exact .inr ⟨_, h, by omega⟩
        · exact (HF3.out.trans HFk.out (.inl rfl)).trans hF5 (by
            rcases HVk.out with h2 | ⟨g, h2, h3⟩
            · exact .inl h2
            · exact .inr ⟨g, h2, by omega⟩)
      obtain ⟨y, hy⟩ : ∃ y, nx[k]? = some y := ⟨_, List.getElem?_eq_getElem (by have := HN3.out; omega)⟩
      obtain ⟨hy0, hyl⟩ := HRG.out y (List.mem_of_getElem? hy)
      obtain ⟨yn, rfl⟩ : ∃ n : Nat, y = n := ⟨y.toNat, by omega⟩
      have hdr : nx.drop k = (yn : Int) :: nx.drop (k + 1) := by
        have hkl := (List.getElem?_eq_some_iff.1 hy).1
        rw [List.drop_eq_getElem_cons hkl, (List.getElem?_eq_some_iff.1 hy).2]
      rw [hdr] at hDk
      obtain ⟨ma, la, hDa, hDb⟩ := hDk.split
      have hyn : yn < f.blocks.length := by omega
      obtain ⟨a1, a2, a3⟩ := HLS.out _ _ _ _ _ hDa hmkl (fun c hc => by simp at hc; subst hc; exact ⟨by omega, by omega⟩)
      obtain ⟨b3, o3, rfl, hb3, hc3⟩ := HS3.out (by have := HN3.out; omega)
      have hb3f := HA3.out b3 o3 rfl
      have hownb : own ≠ some b3 := fun e => by have := HLT.out b3 e; omega
      have cy := (World.cell?_of_block (a := ⟨b3, o3 + k, none⟩) (HFk.out.block b3 hb3 (by omega) hownb)).trans (hc3 k (by have := HN3.out; omega))
      rw [show nx.getD k 0 = (yn : Int) by simp [List.getD, hy]] at cy
      have hb3o : b3 < wo.heap.size := by omega
      have HCL := hide (fun (W : World) (hW : Below wo.heap.size wo W) => HIH.out (mk.count false) hmku yn mk lk' ma la W v rfl hDa (by have := HLSE.out; omega) (by have := HLSE.out; omega) hlk (by have := hW.size; omega) (HKB.out W ((HF3.out.trans HFk.out (.inl rfl)).trans (FrL.of_below (bm := bm) (own := own) hW) (.inl rfl))) (Box.below HMk.out hW) (HOk.out.below hW))
      have HNW := hide (fun (w4 : World) (v4 : Value) (hM : MB w4 bm ma) (hO : Ow w4 base 3 .i64 v4 la) (hv : v4.ownBlock = v.ownBlock ∨ ∃ g, v4.ownBlock = some g ∧ wo.heap.size ≤ g) (hF : FrL bm v.ownBlock wo w4) => (show WkL f bm base (.slice Al ll cl) w3 nx u f.blocks.length m1 l1 (k + 1) v4 w4 from ⟨ma, la, hDb, a1, by omega, by omega, hM, hO, by
        rw [HOWN.out]
        rcases hv with h | ⟨g, h, h2⟩
        · rw [h]; exact HVk.out
        · exact .inr ⟨g, h, by omega⟩, by
        rw [HOWN.out]
        exact HFk.out.trans hF HVk.out⟩))
      have HSW := hide (fun (w4 : World) (hF : FrL bm v.ownBlock wo w4) => (show (w4.cell? ⟨h5, 0, none⟩ = some (.slice Ak lk ck) ∧ w4.cell? ⟨h5, 1, none⟩ = some (.slice Ab lb cb) ∧ w4.cell? ⟨h5, 2, none⟩ = some (.int .i64 fp) ∧ w4.cell? ⟨h5, 3, none⟩ = some (.int .i64 fr) ∧ w4.cell? ⟨h5, 4, none⟩ = some (.slice As ls cs)) ∧ w4.cell? ⟨b3, o3 + k, none⟩ = some (.int .i64 (yn : Int)) from by
        have hb := hF.box HX4.out (by omega) (HVN.out h5 (by omega) hown5)
        exact ⟨⟨(hb.cell 0 (v := .slice Ak lk ck) rfl).1, (hb.cell 1 (v := .slice Ab lb cb) rfl).1, (hb.cell 2 (v := .int .i64 fp) rfl).1, (hb.cell 3 (v := .int .i64 fr) rfl).1, (hb.cell 4 (v := .slice As ls cs) rfl).1⟩, (World.cell?_of_block (a := ⟨b3, o3 + k, none⟩) (hF.block b3 hb3o (by omega) (HVN.out b3 hb3 hownb))).trans cy⟩))
      obtain ⟨⟨c0, c1, c2, c3, c4⟩, -⟩ := HSW.out wo (FrL.of_below (Below.refl _ _))
      have lo : h5 < wo.heap.size := HX4.out.lt
      have hki : (0 : Int) ≤ (k : Int) := by omega
      have hkn : (k : Int) < (n3 : Int) := by omega
      clear hc3 hy hy0 hyl hdr hDk hDa hDb hmkl hmku hlk a1 a2 a3
      go_upto_region 8 with (fail)
      go_region_held3 (fun w' => (w'.cell? ⟨h5, 0, none⟩ = some (.slice Ak lk ck) ∧ w'.cell? ⟨h5, 1, none⟩ = some (.slice Ab lb cb) ∧ w'.cell? ⟨h5, 2, none⟩ = some (.int .i64 fp) ∧ w'.cell? ⟨h5, 3, none⟩ = some (.int .i64 fr) ∧ w'.cell? ⟨h5, 4, none⟩ = some (.slice As ls cs)) ∧ w'.cell? ⟨b3, o3 + k, none⟩ = some (.int .i64 (yn : Int))) (first | go_keep | (exact q4))
        (first
          | (go_at_call 77; refine (HCL.out _ (below_drewN (Below.refl _ _) 1)).mono ?_; rintro e w4 ⟨v4, rfl, hm4, ho4, hv4, hf4⟩; have hF4 : FrL bm v.ownBlock wo w4 := ⟨hf4.os, hf4.tape, hf4.output, hf4.size, hf4.block⟩; have q4 := HSW.out w4 hF4; have HN4 := hide (HNW.out w4 v4 hm4 ho4 hv4 hF4); clear hm4 ho4 hv4 hf4 hF4))
      all_goals
        go_wp2
        go_roundw
        case rel => exact ⟨v4, k + 1, rfl, by omega, by go_num, HN4⟩
        case measure => simp [intOf]; omega
theorem asc_eq' : ∀ {l1 l2 : List Int}, l1.Pairwise (· < ·) → l2.Pairwise (· < ·) → (∀ x, x ∈ l1 ↔ x ∈ l2) → l1 = l2
  | [], [], _, _, _ => rfl
  | [], b :: l2, _, _, h => by have := (h b).2 (by simp); simp at this
  | a :: l1, [], _, _, h => by have := (h a).1 (by simp); simp at this
  | a :: l1, b :: l2, h1, h2, h => by
    obtain ⟨p1, p2⟩ := List.pairwise_cons.1 h1
    obtain ⟨q1, q2⟩ := List.pairwise_cons.1 h2
    have hab : a = b := by
      have ha := (h a).1 (by simp)
      have hb := (h b).2 (by simp)
      rcases List.mem_cons.1 ha with e | e
      · exact e
      · rcases List.mem_cons.1 hb with e2 | e2
        · exact e2.symm
        · have := q1 a e; have := p1 b e2; omega
    subst hab
    have : l1 = l2 := asc_eq' p2 q2 (fun x => by
      constructor
      · intro hx
        rcases List.mem_cons.1 ((h x).1 (List.mem_cons_of_mem _ hx)) with e | e
        · have := p1 x hx; omega
        · exact e
      · intro hx
        rcases List.mem_cons.1 ((h x).2 (List.mem_cons_of_mem _ hx)) with e | e
        · have := q1 x hx; omega
        · exact e)
    rw [this]
theorem sortL_asc' {l : List Int} (hn : l.Nodup) : (sortL l).Pairwise (· < ·) := by
  have h1 := List.pairwise_mergeSort (le := fun x y : Int => decide (x ≤ y)) (fun a b c h1 h2 => by simp at *; omega) (fun a b => by simp; omega) l
  have h2 : (sortL l).Nodup := (List.mergeSort_perm l _).nodup_iff.2 hn
  unfold sortL at h2 ⊢
  exact (h1.and h2).imp fun ⟨a, b⟩ => by simp at a; omega
set_option maxHeartbeats 2000000 in
set_option maxRecDepth 100000 in
theorem rorder_any (vk vb vs : Value) (f : FunV) (o : List Int) (ho : OrderOf f o) (w : World) (B : Nat) (hB : B ≤ w.heap.size) (hi : FunI w (· < B) vk vb vs f) (hok : FlowOk f) (h1 : 1 ≤ f.blocks.length) :
    Calls Try.prog 62 #[.agg #[vk, vb, .int .i64 f.params, .int .i64 f.result, vs]] w fun e w' => ∃ v, e = .returned v ∧ Ow w' w.heap.size 3 .i64 v o ∧ Below w.heap.size w w' := by
  obtain ⟨mF, lF, hD, rfl⟩ := ho
  have hlF := dfs_len hok h1 hD
  have hls40 := hok.1
  have HWK := hide (fun (W : World) (hW : Below w.heap.size w W) (bm : Nat) (hbm : w.heap.size ≤ bm) (hM : MB W bm (List.replicate f.blocks.length false)) => (rwalk_any vk vb vs f hok bm W.heap.size w.heap.size hbm hW.size _ 0 _ [] mF lF W (.slice none 0 0) rfl hD (by simp) h1 (by simp; exact hls40) (Nat.le_refl _) (hi.keep (up hW hB) (fun _ h => by omega)) hM (Ow.nil _ _ _ _)).mono (R' := fun e w' => ∃ v', e = .returned v' ∧ Ow w' W.heap.size 3 .i64 v' lF ∧ Below w.heap.size w w') (fun e w' ⟨v', e1, e2, e3, e4, e5⟩ => ⟨v', e1, e3, hW.trans ⟨e5.os, e5.tape, e5.output, e5.size, fun k hk => e5.block k (by have := hW.size; omega) (by omega) (by simp [Value.ownBlock])⟩⟩))
  have hmake : ∀ W : World, (Instr.makeSlice 96 (.int .i64 (f.blocks.length : Int)) (.int .i64 (f.blocks.length : Int))).run Try.prog W = .ok (.slice (some ⟨W.heap.size, 0, none⟩) f.blocks.length f.blocks.length) (W.alloc (.cells (madeCells (Value.bool false).cells (f.blocks.length * 1)) 4)) := fun W => mk_run 96 4 Try.underlying96 info_bool (by omega) f.blocks.length (by omega) W
  obtain ⟨mc, hmc⟩ : ∃ mc, madeCells (Value.bool false).cells (f.blocks.length * 1) = mc := ⟨_, rfl⟩
  rw [hmc] at hmake
  have HMC := hide (show mc = ((List.replicate f.blocks.length false).map Value.bool).toArray by rw [← hmc]; exact madeCells_bool _)
  obtain ⟨i0, hi0, iz0, iz1, iz2⟩ := info_parts info_i64
  have HI := hide hi0
  obtain ⟨Ak, ck, rfl, hck, hmk⟩ := hi.1.open'
  obtain ⟨Ab, cb, rfl, hcb, hmb⟩ := hi.2.1.open'
  obtain ⟨As, cs, rfl, hcs, hms⟩ := hi.2.2.1.open'
  generalize f.kinds.length = lk, f.base.length = lb, f.blocks.length = ls, f.params = fp, f.result = fr at *
  clear hi hok hi0 hD hmc
  go_enter Try.func62, Try.ntmps62
  go_upto_region 1 with (fail)
  obtain ⟨w1, hw1⟩ : ∃ w1, w1 = w.alloc (.cells #[.slice Ak lk ck, .slice Ab lb cb, .int .i64 fp, .int .i64 fr, .slice As ls cs] 30) := ⟨_, rfl⟩
  obtain ⟨h5, hh5⟩ : ∃ h5, w.heap.size = h5 := ⟨_, rfl⟩
  have HX1 := hide (show Box w1 h5 #[.slice Ak lk ck, .slice Ab lb cb, .int .i64 fp, .int .i64 fr, .slice As ls cs] 30 by rw [hw1, ← hh5]; exact Box.new w _ _)
  have HB1 := hide (show Below w.heap.size w w1 by rw [hw1]; exact alloc1 w _)
  have HK1 := hide (fun (W : World) (hW : Below w1.heap.size w1 W) => And.intro ((HX1.out.below hW).cell 0 (v := .slice Ak lk ck) rfl).1 (And.intro ((HX1.out.below hW).cell 1 (v := .slice Ab lb cb) rfl).1 (And.intro ((HX1.out.below hW).cell 2 (v := .int .i64 fp) rfl).1 (And.intro ((HX1.out.below hW).cell 3 (v := .int .i64 fr) rfl).1 ((HX1.out.below hW).cell 4 (v := .slice As ls cs) rfl).1))))
  have HUP := hide (fun (W : World) (hW : Below w1.heap.size w1 W) => HB1.out.trans (hW.mono HB1.out.size))
  have l1 := HX1.out.lt
  have hw1s := HB1.out.size
  rw [← hw1, hh5]
  clear hw1 hh5
  obtain ⟨c0, c1, c2, c3, c4⟩ := HK1.out w1 (Below.refl _ _)
  go_region_with (go_at_call 77; refine (HWK.out _ (below_drewN (HB1.out.alloc hw1s _) 1) _ (by first | exact hw1s | (simp; omega)) (by unfold MB; rw [← HMC.out]; exact Box.new w1 _ _)).mono ?_; rintro e w2 ⟨v2, rfl, ho2, hb2⟩)
  all_goals
    have HO2 := hide (show Ow w2 w.heap.size 3 .i64 v2 lF from ho2.lower (by first | (simp; omega) | (show w.heap.size ≤ _; simp; omega)))
    have HB2 := hide hb2
    obtain ⟨A2, k2, rfl, hle2, hme2, hs2⟩ := HO2.out.sl
    have HS2 := hide hs2
    have hz2 := HB2.out.size
    obtain ⟨nF, hnF⟩ : ∃ n, lF.length = n := ⟨_, rfl⟩
    have HNF := hide hnF
    rw [hnF] at hle2 hlF ⊢
    clear hs2 hnF ho2 hb2 c0 c1 c2 c3 c4 hmake
    go_wp2
    go_loopw [4, 5] (fun l i wr => ∃ (v : Value) (k : Nat), v = l ∧ k ≤ nF ∧ i = .int .i64 (k : Int) ∧ Below w2.heap.size w2 wr ∧ Hid (Ow wr w2.heap.size 3 .i64 v (lF.drop k).reverse)) (fun _ i _ => (intOf i).toNat)
    case atStart => exact ⟨_, nF, rfl, Nat.le_refl _, rfl, Below.refl _ _, hide (by rw [List.drop_eq_nil_of_le (by have := HNF.out; omega)]; exact Ow.nil _ _ _ _)⟩
    case round =>
      obtain ⟨v, k, rfl, hk, rfl, hb, how⟩ := hrel
      obtain ⟨wo, rfl⟩ : ∃ wo, wo = wr := ⟨_, rfl⟩
      have hsz := hb.size
      have HBW := hide hb
      have HBEL := hide (HB2.out.trans (hb.mono hz2))
      clear hb
      by_cases hlt : 0 < k
      case neg =>
        obtain rfl : k = 0 := by omega
        have HO := hide (show Ow wo w.heap.size 3 .i64 v lF.reverse by have h := how.out.lower hz2; rw [List.drop_zero] at h; exact h)
        go_wp2
        go_ret
        exact ⟨_, rfl, HO.out, HBEL.out⟩
      obtain ⟨j, rfl⟩ : ∃ j, k = j + 1 := ⟨k - 1, by omega⟩
      obtain ⟨y, hy⟩ : ∃ y, lF[j]? = some y := ⟨_, List.getElem?_eq_getElem (by have := HNF.out; omega)⟩
      obtain ⟨be, oe, rfl, hbe, hce⟩ := (HS2.out.below HBW.out) (by have := HNF.out; omega)
      have d1 := hce j (by have := HNF.out; omega)
      rw [show lF.getD j 0 = y by simp [List.getD, hy]] at d1
      have hbs : be < wo.heap.size := by omega
      have HST := hide (show (lF.drop (j + 1)).reverse ++ [y] = (lF.drop j).reverse by
        have hjl := (List.getElem?_eq_some_iff.1 hy).1
        rw [List.drop_eq_getElem_cons hjl, List.reverse_cons, (List.getElem?_eq_some_iff.1 hy).2])
      have HRO := hide (show (lF.drop (j + 1)).reverse.length < 1099511627776 by rw [List.length_reverse, List.length_drop]; have := HNF.out; omega)
      have e1 : IntKind.i64.wrap (((j + 1 : Nat) : Int) - 1) = (j : Int) := by
        rw [show ((j + 1 : Nat) : Int) - 1 = (j : Int) by omega]
        exact IntWalk.i64_in _ ⟨by omega, by omega⟩
      have e2 : IntKind.i64.wrap ((j : Int) + 1 - 1) = (j : Int) := by
        rw [show (j : Int) + 1 - 1 = (j : Int) by omega]
        exact IntWalk.i64_in _ ⟨by omega, by omega⟩
      have hj0 : (0 : Int) ≤ (j : Int) := by omega
      have hjn : (j : Int) < (nF : Int) := by omega
      have hjn2 : j < nF := by omega
      obtain ⟨zs, hzs⟩ : ∃ zs, (lF.drop (j + 1)).reverse = zs := ⟨_, rfl⟩
      rw [hzs] at how HST HRO
      clear hce hbe hy hzs
      go_wp2_with (at_builtin; refine wpList_append_one wo rfl (.tmp 18) (.tmp 24) _ rfl w2.heap.size 3 .i64 i0 _ 8 Try.underlying27 HI.out iz0 iz1 iz2 rfl (by omega) v zs (by rfl) how.out y (by rfl) HRO.out hsz ?_; intro v5 w5 ho5 hb5)
      go_roundw
      case rel => exact ⟨v5, j, rfl, by omega, by first | rfl | (simp; done) | go_num, HBW.out.trans hb5, hide (by rw [← HST.out]; exact ho5)⟩
      case measure => simp [intOf]; try omega
end Go.Proofs.Ytnoknodijombpaa
