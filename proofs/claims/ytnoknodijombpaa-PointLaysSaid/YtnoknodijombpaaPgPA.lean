/- Layer 14, the program: Is, Points. Condition: no more than 40 blocks of no more than 40 instructions. -/
import Derived.Test.YtnoknodijombpaaPgDQ
set_option linter.unusedSimpArgs false
set_option linter.unusedVariables false
namespace Go.Proofs.Ytnoknodijombpaa
open Go.RowKit

def plC (e : Int × Int) : List Value := [.int .i64 e.1, .int .i64 e.2]
def isPt (op : Int) : Bool := decide (op = 10) || decide (op = 19) || decide (op = 24)
def ptsIn (b : Nat) (l : List InsV) (j : Nat) : List (Int × Int) := ((List.range j).filter (fun i => match l[i]? with | some x => isPt x.op | none => false)).map (fun i => ((b : Int), ((i : Nat) : Int)))
def ptsTo (f : FunV) (k : Nat) : List (Int × Int) := (List.range k).flatMap (fun b => ptsIn b (f.blocks.getD b []) (f.blocks.getD b []).length)
def ptsN (f : FunV) : List (Int × Int) := ptsTo f f.blocks.length
theorem ptsIn_yes {b j : Nat} {l : List InsV} {x : InsV} (h : l[j]? = some x) (hx : isPt x.op = true) : ptsIn b l (j + 1) = ptsIn b l j ++ [((b : Int), (j : Int))] := by
  unfold ptsIn
  rw [List.range_succ, List.filter_append, List.map_append]
  congr 1
  simp [List.filter_cons, h, hx]
theorem ptsIn_no {b j : Nat} {l : List InsV} {x : InsV} (h : l[j]? = some x) (hx : isPt x.op = false) : ptsIn b l (j + 1) = ptsIn b l j := by
  unfold ptsIn
  rw [List.range_succ, List.filter_append, List.map_append]
  simp [List.filter_cons, h, hx]
theorem ptsIn_zero (b : Nat) (l : List InsV) : ptsIn b l 0 = [] := rfl
theorem ptsIn_len (b : Nat) (l : List InsV) (j : Nat) : (ptsIn b l j).length ≤ j := by
  unfold ptsIn
  rw [List.length_map]
  exact Nat.le_trans (List.length_filter_le _ _) (by simp)
theorem ptsTo_succ {f : FunV} {k : Nat} {l : List InsV} (h : f.blocks[k]? = some l) : ptsTo f (k + 1) = ptsTo f k ++ ptsIn k l l.length := by
  unfold ptsTo
  rw [List.range_succ, List.flatMap_append]
  simp [List.getD, h]
theorem ptsTo_len {f : FunV} (h : ∀ b ∈ f.blocks, b.length ≤ 40) : ∀ k, (ptsTo f k).length ≤ k * 40
  | 0 => by simp [ptsTo]
  | k + 1 => by
    have t := ptsTo_len h k
    by_cases hk : k < f.blocks.length
    · have hl := h _ (List.getElem_mem hk)
      rw [ptsTo_succ (List.getElem?_eq_getElem hk), List.length_append]
      have := ptsIn_len k f.blocks[k] f.blocks[k].length
      omega
    · unfold ptsTo at t ⊢
      rw [List.range_succ, List.flatMap_append, List.length_append]
      have e : f.blocks.getD k [] = [] := by rw [List.getD_eq_getElem?_getD, List.getElem?_eq_none (by omega)]; rfl
      have e2 : ptsIn k ([] : List InsV) ([] : List InsV).length = [] := rfl
      rw [List.flatMap_cons, List.flatMap_nil, e, e2]
      simp only [List.append_nil, List.length_nil]
      omega
theorem info_place14 : (Try.prog.info? 46).map (fun i => (i.zero, i.size, i.bytes)) = some (some (.agg #[.int .i64 0, .int .i64 0]), 2, 16) := by kernel_rfl
theorem pis_any (op : Int) (w : World) : Calls Try.prog 28 #[.int .i64 op] w fun e w' => e = .returned (.bool (isPt op)) ∧ w = w' := by
  rcases (show (op = 10 ∧ isPt op = true) ∨ (op ≠ 10 ∧ op = 19 ∧ isPt op = true) ∨ (op ≠ 10 ∧ op ≠ 19 ∧ op = 24 ∧ isPt op = true) ∨ (op ≠ 10 ∧ op ≠ 19 ∧ op ≠ 24 ∧ isPt op = false) by unfold isPt; by_cases h1 : op = 10 <;> by_cases h2 : op = 19 <;> by_cases h3 : op = 24 <;> simp [h1, h2, h3]) with ⟨h1, hr⟩ | ⟨h1, h2, hr⟩ | ⟨h1, h2, h3, hr⟩ | ⟨h1, h2, h3, hr⟩
  · rw [hr]
    subst h1
    clear hr
    go_enter Try.func28, Try.ntmps28
    go_wp2
    go_ret
    exact ⟨rfl, rfl⟩
  · rw [hr]
    subst h2
    clear hr h1
    go_enter Try.func28, Try.ntmps28
    go_wp2
    go_ret
    exact ⟨rfl, rfl⟩
  · rw [hr]
    subst h3
    clear hr h1 h2
    go_enter Try.func28, Try.ntmps28
    go_wp2
    go_ret
    exact ⟨rfl, rfl⟩
  · rw [hr]
    have q1 : (op == 10) = false := by simpa using h1
    have q2 : (op == 19) = false := by simpa using h2
    have q3 : (op == 24) = false := by simpa using h3
    clear hr h1 h2 h3
    go_enter Try.func28, Try.ntmps28
    go_wp2
    go_ret
    exact ⟨rfl, rfl⟩
/-- A place more, behind an own list of them. -/
theorem pl_below {w w9 : World} {base : Nat} {v v9 : Value} {es es9 : List (Int × Int)} {o : Obj} (h : OwC plC 46 2 w base v es) (hb : base ≤ w.heap.size) (hg : (w.alloc o).grownBy w9 v.ownBlock) : Below base w w9 := by
  have t : Below base w (w.alloc o) := (alloc1 w o).mono hb
  exact t.grown hg (by simp only [World.size_alloc]; omega) (fun k hk => (h.lt k hk).1)
set_option maxHeartbeats 2000000 in
set_option maxRecDepth 100000 in
theorem ppoints_any (vk vb vs : Value) (f : FunV) (w : World) (B : Nat) (hB : B ≤ w.heap.size) (hi : FunI w (· < B) vk vb vs f) (h40 : f.blocks.length ≤ 40) (hc40 : ∀ l ∈ f.blocks, l.length ≤ 40) :
    Calls Try.prog 24 #[.agg #[vk, vb, .int .i64 f.params, .int .i64 f.result, vs]] w fun e w' => ∃ v, e = .returned v ∧ OwC plC 46 2 w' w.heap.size v (ptsN f) ∧ Below w.heap.size w w' := by
  obtain ⟨Ak, ck, rfl, hck, hmk⟩ := hi.1.open'
  obtain ⟨Ab, cb, rfl, hcb, hmb⟩ := hi.2.1.open'
  obtain ⟨As, cs, rfl, hcs, hms⟩ := hi.2.2.1.open'
  obtain ⟨i0, hi0, iz0, iz1, iz2⟩ := info_parts info_place14
  have HI := hide hi0
  have HBK := hide (fun (W : World) (hW : Below w.heap.size w W) => (hi.keep (up hW hB) (fun _ h => h) : FunI W (· < B) _ _ _ f).2.2.1)
  have HBB := hide hB
  have HC40 := hide hc40
  have HED := hide (show ptsTo f f.blocks.length = ptsN f from rfl)
  have HSU := hide (fun (k : Nat) (l : List InsV) (h : f.blocks[k]? = some l) => ptsTo_succ h)
  have HTL := hide (fun k => ptsTo_len hc40 k)
  obtain ⟨ls, hls⟩ : ∃ ls, f.blocks.length = ls := ⟨_, rfl⟩
  have HLS := hide hls
  rw [hls] at h40 HED hcs HBK ⊢
  generalize f.kinds.length = lk, f.base.length = lb, f.params = fp, f.result = fr, ptsN f = en at *
  clear hi hi0 hls hB hc40
  go_enter Try.func24, Try.ntmps24
  go_upto_region 1 with (fail)
  obtain ⟨w1, hw1⟩ : ∃ w1, w1 = w.alloc (.cells #[.slice Ak lk ck, .slice Ab lb cb, .int .i64 fp, .int .i64 fr, .slice As ls cs] 30) := ⟨_, rfl⟩
  have HX1 := hide (show Box w1 w.heap.size #[.slice Ak lk ck, .slice Ab lb cb, .int .i64 fp, .int .i64 fr, .slice As ls cs] 30 by rw [hw1]; exact Box.new w _ _)
  have HB1 := hide (show Below w.heap.size w w1 by rw [hw1]; exact alloc1 w _)
  rw [← hw1]
  clear hw1
  have l1 := HX1.out.lt
  have c4 := (HX1.out.cell 4 (v := .slice As ls cs) rfl).1
  go_wp2
  clear c4
  go_loopw [3, 11] (fun l i wr => ∃ (v : Value) (k : Nat), v = l ∧ k ≤ ls ∧ i = .int .i64 k ∧ Below w1.heap.size w1 wr ∧ Hid (OwC plC 46 2 wr w1.heap.size v (ptsTo f k))) (fun _ i _ => ls - (intOf i).toNat)
  case atStart => exact ⟨_, 0, rfl, Nat.zero_le _, rfl, Below.refl _ _, hide (OwC.nil _ _)⟩
  case round =>
    obtain ⟨v, k, rfl, hk, rfl, hb, how⟩ := hrel
    obtain ⟨wo, rfl⟩ : ∃ wo, wo = wr := ⟨_, rfl⟩
    have hsz := hb.size
    have HBW := hide hb
    have HBEL := hide (HB1.out.trans (hb.mono HB1.out.size))
    clear hb
    by_cases hlt : k < ls
    case neg =>
      obtain rfl : k = ls := by omega
      have HO := hide (show OwC plC 46 2 wo w.heap.size v en by rw [← HED.out]; exact how.out.lower HB1.out.size)
      go_wp2
      go_ret
      exact ⟨_, rfl, HO.out, HBEL.out⟩
    have HLT := hide hlt
    obtain ⟨l, hl⟩ : ∃ l, f.blocks[k]? = some l := ⟨_, List.getElem?_eq_getElem (by have := HLS.out; omega)⟩
    have HL := hide hl
    obtain ⟨bB, oB, A1, c1, hA, hbB, d0', hins⟩ := (HBK.out w1 HB1.out).get hl
    subst hA
    have hB1 : B ≤ w1.heap.size := by have := HBB.out; have := HB1.out.size; omega
    have hbB2 : bB < wo.heap.size := by omega
    have HSK := hide (HSU.out k l hl)
    have hl40 := HC40.out l (List.mem_of_getElem? hl)
    have hT40 := HTL.out k
    have HPL := hide (ptsIn_len k l)
    have HPY := hide (fun (j : Nat) (x : InsV) (h : l[j]? = some x) => And.intro (fun (hx : isPt x.op = true) => ptsIn_yes (b := k) h hx) (fun (hx : isPt x.op = false) => ptsIn_no (b := k) h hx))
    obtain ⟨nl, hnl⟩ : ∃ nl, l.length = nl := ⟨_, rfl⟩
    have HNL := hide hnl
    rw [hnl] at d0' hins hl40 HSK
    have HIN := hide hins
    have d0 := (HBW.out.cell (p := ⟨bB, oB + k, none⟩) (show bB < w1.heap.size by omega)).trans d0'
    clear hl hins hnl d0'
    have hki : (0 : Int) ≤ (k : Int) := by omega
    have hkl : (k : Int) < (ls : Int) := by omega
    go_upto_region 5 with (fail)
    obtain ⟨w5, hw5⟩ : ∃ w5, w5 = wo.alloc (.cells #[.slice A1 nl c1] 53) := ⟨_, rfl⟩
    obtain ⟨h5, hh5⟩ : ∃ h5, wo.heap.size = h5 := ⟨_, rfl⟩
    have HX5 := hide (show Box w5 h5 #[.slice A1 nl c1] 53 by rw [hw5, ← hh5]; exact Box.new wo _ _)
    have HB5 := hide (show Below wo.heap.size wo w5 by rw [hw5]; exact alloc1 wo _)
    rw [← hw5, hh5]
    have hz5 := HB5.out.size
    have HC5 := hide (HBW.out.trans (HB5.out.mono hsz))
    have HO5 := hide (how.out.below HB5.out)
    clear hw5 hh5 d0 hbB2
    have l5 := HX5.out.lt
    have x5 := (HX5.out.cell 0 (v := .slice A1 nl c1) rfl).1
    go_wp2
    clear x5
    go_loopw [3, 19] (fun l' i wr => ∃ (v : Value) (j : Nat), v = l' ∧ j ≤ nl ∧ i = .int .i64 j ∧ Below w1.heap.size w1 wr ∧ Hid (OwC plC 46 2 wr w1.heap.size v (ptsTo f k ++ ptsIn k l j))) (fun _ i _ => nl - (intOf i).toNat)
    case atStart => exact ⟨_, 0, rfl, Nat.zero_le _, rfl, HC5.out, hide (by rw [ptsIn_zero, List.append_nil]; exact HO5.out)⟩
    case round =>
      obtain ⟨v2, j, rfl, hj, rfl, hcj, hoj⟩ := hrel
      obtain ⟨wq, rfl⟩ : ∃ wq, wq = wr := ⟨_, rfl⟩
      have hszj := hcj.size
      have HCJ := hide hcj
      clear hcj
      by_cases hlj : j < nl
      case neg =>
        obtain rfl : j = nl := by omega
        have HO := hide (show OwC plC 46 2 wq w1.heap.size v2 (ptsTo f (k + 1)) by rw [HSK.out]; exact hoj.out)
        go_wp2
        go_roundw
        case rel => exact ⟨_, k + 1, rfl, by have := HLT.out; omega, by go_num, HCJ.out, HO⟩
        case measure => have := HLT.out; simp [intOf]; omega
      have HLJ := hide hlj
      obtain ⟨x, hx⟩ : ∃ x, l[j]? = some x := ⟨_, List.getElem?_eq_getElem (by have := HNL.out; omega)⟩
      obtain ⟨bC, oC, A2, c2, hA1, hbC, ⟨d0, d1, d2, d3, d4, d5, d6⟩, -⟩ := (HIN.out.keep (up HCJ.out hB1) (fun _ h => h)).get hx
      subst hA1
      have hbC2 : bC < wq.heap.size := by omega
      have HPQ := hide (HPY.out j x hx)
      have hp2 := HPL.out j
      obtain ⟨np, hnp⟩ : ∃ np, (ptsTo f k ++ ptsIn k l j).length = np := ⟨_, rfl⟩
      have hroom : np < 1000000 := by rw [← hnp, List.length_append]; omega
      have HNP := hide hnp
      generalize x.op = xo, x.d = xd, x.a = xa, x.b = xb, x.n = xn, x.m = xm, x.args.length = na at *
      clear hx hnp
      have hji : (0 : Int) ≤ (j : Int) := by omega
      have hjl : (j : Int) < (nl : Int) := by omega
      go_upto_region 8 with (fail)
      obtain ⟨w7, hw7⟩ : ∃ w7, w7 = wq.alloc (.cells #[.int .i64 xo, .int .i64 xd, .int .i64 xa, .int .i64 xb, .int .i64 xn, .int .i64 xm, .slice A2 na c2] 50) := ⟨_, rfl⟩
      obtain ⟨h7, hh7⟩ : ∃ h7, wq.heap.size = h7 := ⟨_, rfl⟩
      have HX7 := hide (show Box w7 h7 #[.int .i64 xo, .int .i64 xd, .int .i64 xa, .int .i64 xb, .int .i64 xn, .int .i64 xm, .slice A2 na c2] 50 by rw [hw7, ← hh7]; exact Box.new wq _ _)
      have HB7 := hide (show Below wq.heap.size wq w7 by rw [hw7]; exact alloc1 wq _)
      rw [← hw7, hh7]
      have hz7 := HB7.out.size
      have HCJ7 := hide (HCJ.out.trans (HB7.out.mono hszj))
      have HO7 := hide (hoj.out.below HB7.out)
      clear hw7 hh7 d0 d1 d2 d3 d4 d5 d6 hbC2
      have l7 := HX7.out.lt
      have x7 := (HX7.out.cell 0 (v := .int .i64 xo) rfl).1
      have HIS := hide (pis_any xo w7)
      cases hp : isPt xo with
      | false =>
        have HN := hide (HPQ.out.2 hp)
        rw [hp] at HIS
        clear hp
        go_wp2_with (go_at_call 28; refine HIS.out.mono ?_; rintro e w8 ⟨rfl, rfl⟩)
        go_roundw
        case rel => exact ⟨_, j + 1, rfl, by have := HLJ.out; omega, by go_num, HCJ7.out, hide (by rw [HN.out]; exact HO7.out)⟩
        case measure => have := HLJ.out; simp [intOf]; omega
      | true =>
        have HN := hide (HPQ.out.1 hp)
        rw [hp] at HIS
        clear hp
        have HNX := hide (Box.new w7 #[.int .i64 (k : Int), .int .i64 (j : Int)] 46)
        have HOW := hide (HO7.out.below (alloc1 w7 (.cells #[.int .i64 (k : Int), .int .i64 (j : Int)] 46)))
        have hsz7 : w1.heap.size ≤ w7.heap.size := by omega
        have HBL := hide (fun (u : Value) (w9 : World) (es9 : List (Int × Int)) (hg : (w7.alloc (.cells #[.int .i64 (k : Int), .int .i64 (j : Int)] 46)).grownBy w9 v2.ownBlock) => (show Below w1.heap.size w7 w9 from pl_below (v9 := u) (es9 := es9) HO7.out hsz7 hg))
        go_wp2_with (first
          | (at_builtin; refine wpList_append_c (c := plC) (sz := 2) (w7.alloc (.cells #[.int .i64 (k : Int), .int .i64 (j : Int)] 46)) (by rfl) _ _ _ (by rfl) w1.heap.size i0 _ 16 Try.underlying42 HI.out iz0 iz1 iz2 rfl (by omega) (by omega) v2 (ptsTo f k ++ ptsIn k l j) np HNP.out (by rfl) HOW.out ((k : Int), (j : Int)) rfl (by intro u hu; simp [plC] at hu; rcases hu with rfl | rfl <;> rfl) w7.heap.size _ HNX.out rfl (by rfl) hroom (by simp only [World.size_alloc]; omega) ?_; intro g9 c9 w9 ho9 hg9 ha9 hl9; have HO9 := hide ho9; have HG9 := hide (HBL.out v2 w9 [] hg9); clear ho9 hg9)
          | (go_at_call 28; refine HIS.out.mono ?_; rintro e w8 ⟨rfl, rfl⟩))
        go_roundw
        case rel => exact ⟨_, j + 1, rfl, by have := HLJ.out; omega, by go_num, HCJ7.out.trans HG9.out, hide (by rw [HN.out, ← List.append_assoc]; exact HO9.out)⟩
        case measure => have := HLJ.out; simp [intOf]; omega
end Go.Proofs.Ytnoknodijombpaa
