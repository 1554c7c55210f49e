/- Layer 14, the reference: Is, Points, Number. Condition: no more than 40 blocks of no more than 40 instructions. -/
import Derived.Test.YtnoknodijombpaaPfPB
set_option linter.unusedSimpArgs false
set_option linter.unusedVariables false
namespace Go.Proofs.Ytnoknodijombpaa
open Go.RowKit

theorem rpis_any (op : Int) (w : World) : Calls Try.prog 29 #[.int .i64 op] w fun e w' => e = .returned (.bool (isPt op)) ∧ w = w' := by
  rcases (show (op = 10 ∧ isPt op = true) ∨ (op ≠ 10 ∧ op = 19 ∧ isPt op = true) ∨ (op ≠ 10 ∧ op ≠ 19 ∧ op = 24 ∧ isPt op = true) ∨ (op ≠ 10 ∧ op ≠ 19 ∧ op ≠ 24 ∧ isPt op = false) by unfold isPt; by_cases h1 : op = 10 <;> by_cases h2 : op = 19 <;> by_cases h3 : op = 24 <;> simp [h1, h2, h3]) with ⟨h1, hr⟩ | ⟨h1, h2, hr⟩ | ⟨h1, h2, h3, hr⟩ | ⟨h1, h2, h3, hr⟩
  · rw [hr]
    subst h1
    clear hr
    go_enter Try.func29, Try.ntmps29
    go_wp2
    go_ret
    exact ⟨rfl, rfl⟩
  · rw [hr]
    subst h2
    clear hr h1
    go_enter Try.func29, Try.ntmps29
    go_wp2
    go_ret
    exact ⟨rfl, rfl⟩
  · rw [hr]
    subst h3
    clear hr h1 h2
    go_enter Try.func29, Try.ntmps29
    go_wp2
    go_ret
    exact ⟨rfl, rfl⟩
  · rw [hr]
    have q1 : (op == 10) = false := by simpa using h1
    have q2 : (op == 19) = false := by simpa using h2
    have q3 : (op == 24) = false := by simpa using h3
    clear hr h1 h2 h3
    go_enter Try.func29, Try.ntmps29
    go_wp2
    go_ret
    exact ⟨rfl, rfl⟩
set_option maxHeartbeats 2000000 in
set_option maxRecDepth 100000 in
theorem rpoints_any (vk vb vs : Value) (f : FunV) (w : World) (B : Nat) (hB : B ≤ w.heap.size) (hi : FunI w (· < B) vk vb vs f) (h40 : f.blocks.length ≤ 40) (hc40 : ∀ l ∈ f.blocks, l.length ≤ 40) :
    Calls Try.prog 25 #[.agg #[vk, vb, .int .i64 f.params, .int .i64 f.result, vs]] w fun e w' => ∃ v, e = .returned v ∧ OwC plC 46 2 w' w.heap.size v (ptsN f) ∧ Below w.heap.size w w' := by
  obtain ⟨Ak, ck, rfl, hck, hmk⟩ := hi.1.open'
  obtain ⟨Ab, cb, rfl, hcb, hmb⟩ := hi.2.1.open'
  obtain ⟨As, cs, rfl, hcs, hms⟩ := hi.2.2.1.open'
  obtain ⟨i0, hi0, iz0, iz1, iz2⟩ := info_parts info_place14
  have HI := hide hi0
  have HBK := hide (fun (W : World) (hW : Below w.heap.size w W) => (hi.keep (up hW hB) (fun _ h => h) : FunI W (· < B) _ _ _ f).2.2.1)
  have HBB := hide hB
  have HC40 := hide hc40
  have HED := hide (show ptsTo f f.blocks.length = ptsN f from rfl)
  have HSU := hide (fun (k : Nat) (l : List InsV) (h : f.blocks[k]? = some l) => ptsTo_succ h)
  have HTL := hide (fun k => ptsTo_len hc40 k)
  obtain ⟨ls, hls⟩ : ∃ ls, f.blocks.length = ls := ⟨_, rfl⟩
  have HLS := hide hls
  rw [hls] at h40 HED hcs HBK ⊢
  generalize f.kinds.length = lk, f.base.length = lb, f.params = fp, f.result = fr, ptsN f = en at *
  clear hi hi0 hls hB hc40
  go_enter Try.func25, Try.ntmps25
  go_upto_region 1 with (fail)
  obtain ⟨w1, hw1⟩ : ∃ w1, w1 = w.alloc (.cells #[.slice Ak lk ck, .slice Ab lb cb, .int .i64 fp, .int .i64 fr, .slice As ls cs] 30) := ⟨_, rfl⟩
  have HX1 := hide (show Box w1 w.heap.size #[.slice Ak lk ck, .slice Ab lb cb, .int .i64 fp, .int .i64 fr, .slice As ls cs] 30 by rw [hw1]; exact Box.new w _ _)
  have HB1 := hide (show Below w.heap.size w w1 by rw [hw1]; exact alloc1 w _)
  rw [← hw1]
  clear hw1
  have l1 := HX1.out.lt
  go_wp2
  go_loopw [3, 4] (fun l i wr => ∃ (v : Value) (k : Nat), v = l ∧ k ≤ ls ∧ i = .int .i64 k ∧ Below w1.heap.size w1 wr ∧ Hid (OwC plC 46 2 wr w1.heap.size v (ptsTo f k))) (fun _ i _ => ls - (intOf i).toNat)
  case atStart => exact ⟨_, 0, rfl, Nat.zero_le _, rfl, Below.refl _ _, hide (OwC.nil _ _)⟩
  case round =>
    obtain ⟨v, k, rfl, hk, rfl, hb, how⟩ := hrel
    obtain ⟨wo, rfl⟩ : ∃ wo, wo = wr := ⟨_, rfl⟩
    have hsz := hb.size
    have HBW := hide hb
    have HBEL := hide (HB1.out.trans (hb.mono HB1.out.size))
    have c4 := ((HX1.out.below hb).cell 4 (v := .slice As ls cs) rfl).1
    have lo := (HX1.out.below hb).lt
    clear hb
    by_cases hlt : k < ls
    case neg =>
      obtain rfl : k = ls := by omega
      have HO := hide (show OwC plC 46 2 wo w.heap.size v en by rw [← HED.out]; exact how.out.lower HB1.out.size)
      go_wp2
      go_ret
      exact ⟨_, rfl, HO.out, HBEL.out⟩
    have HLT := hide hlt
    obtain ⟨l, hl⟩ : ∃ l, f.blocks[k]? = some l := ⟨_, List.getElem?_eq_getElem (by have := HLS.out; omega)⟩
    have HL := hide hl
    obtain ⟨bB, oB, A1, c1, hA, hbB, d0', hins⟩ := (HBK.out w1 HB1.out).get hl
    subst hA
    have hB1 : B ≤ w1.heap.size := by have := HBB.out; have := HB1.out.size; omega
    have HSK := hide (HSU.out k l hl)
    have hl40 := HC40.out l (List.mem_of_getElem? hl)
    have hT40 := HTL.out k
    have HPL := hide (ptsIn_len k l)
    have HPY := hide (fun (j : Nat) (x : InsV) (h : l[j]? = some x) => And.intro (fun (hx : isPt x.op = true) => ptsIn_yes (b := k) h hx) (fun (hx : isPt x.op = false) => ptsIn_no (b := k) h hx))
    obtain ⟨nl, hnl⟩ : ∃ nl, l.length = nl := ⟨_, rfl⟩
    have HNL := hide hnl
    rw [hnl] at d0' hins hl40 HSK
    have HIN := hide hins
    have HD0 := hide (fun (W : World) (hW : Below w1.heap.size w1 W) => (hW.cell (p := ⟨bB, oB + k, none⟩) (show bB < w1.heap.size by omega)).trans d0')
    have hbB1 : bB < w1.heap.size := by omega
    clear hl hins hnl d0'
    have hki : (0 : Int) ≤ (k : Int) := by omega
    have hkl : (k : Int) < (ls : Int) := by omega
    go_upto_region 5 with (fail)
    clear c4 lo
    go_wp2
    go_loopw [3, 5] (fun l' i wr => ∃ (v : Value) (j : Nat), v = l' ∧ j ≤ nl ∧ i = .int .i64 j ∧ Below w1.heap.size w1 wr ∧ Hid (OwC plC 46 2 wr w1.heap.size v (ptsTo f k ++ ptsIn k l j))) (fun _ i _ => nl - (intOf i).toNat)
    case atStart => exact ⟨_, 0, rfl, Nat.zero_le _, rfl, HBW.out, hide (by rw [ptsIn_zero, List.append_nil]; exact how.out)⟩
    case round =>
      obtain ⟨v2, j, rfl, hj, rfl, hcj, hoj⟩ := hrel
      obtain ⟨wq, rfl⟩ : ∃ wq, wq = wr := ⟨_, rfl⟩
      have hszj := hcj.size
      have HCJ := hide hcj
      have c4 := ((HX1.out.below hcj).cell 4 (v := .slice (some ⟨bB, oB, none⟩) ls cs) rfl).1
      have lo := (HX1.out.below hcj).lt
      have e0 := HD0.out wq hcj
      have hbB2 : bB < wq.heap.size := by omega
      clear hcj
      by_cases hlj : j < nl
      case neg =>
        obtain rfl : j = nl := by omega
        have HO := hide (show OwC plC 46 2 wq w1.heap.size v2 (ptsTo f (k + 1)) by rw [HSK.out]; exact hoj.out)
        go_wp2
        go_roundw
        case rel => exact ⟨_, k + 1, rfl, by have := HLT.out; omega, by go_num, HCJ.out, HO⟩
        case measure => have := HLT.out; simp [intOf]; omega
      have HLJ := hide hlj
      obtain ⟨x, hx⟩ : ∃ x, l[j]? = some x := ⟨_, List.getElem?_eq_getElem (by have := HNL.out; omega)⟩
      obtain ⟨bC, oC, A2, c2, hA1, hbC, ⟨d0, -⟩, -⟩ := (HIN.out.keep (up HCJ.out hB1) (fun _ h => h)).get hx
      subst hA1
      have hbC2 : bC < wq.heap.size := by omega
      have HPQ := hide (HPY.out j x hx)
      have hp2 := HPL.out j
      obtain ⟨np, hnp⟩ : ∃ np, (ptsTo f k ++ ptsIn k l j).length = np := ⟨_, rfl⟩
      have hroom : np < 1000000 := by rw [← hnp, List.length_append]; omega
      have HNP := hide hnp
      generalize x.op = xo at *
      clear hx hnp
      have hji : (0 : Int) ≤ (j : Int) := by omega
      have hjl : (j : Int) < (nl : Int) := by omega
      have HIS := hide (rpis_any xo wq)
      cases hp : isPt xo with
      | false =>
        have HN := hide (HPQ.out.2 hp)
        rw [hp] at HIS
        clear hp
        go_wp2_with (go_at_call 29; refine HIS.out.mono ?_; rintro e w8 ⟨rfl, rfl⟩)
        go_roundw
        case rel => exact ⟨_, j + 1, rfl, by have := HLJ.out; omega, by go_num, HCJ.out, hide (by rw [HN.out]; exact hoj.out)⟩
        case measure => have := HLJ.out; simp [intOf]; omega
      | true =>
        have HN := hide (HPQ.out.1 hp)
        rw [hp] at HIS
        clear hp
        have HNX := hide (Box.new wq #[.int .i64 (k : Int), .int .i64 (j : Int)] 46)
        have HOW := hide (hoj.out.below (alloc1 wq (.cells #[.int .i64 (k : Int), .int .i64 (j : Int)] 46)))
        have HBL := hide (fun (u : Value) (w9 : World) (es9 : List (Int × Int)) (hg : (wq.alloc (.cells #[.int .i64 (k : Int), .int .i64 (j : Int)] 46)).grownBy w9 v2.ownBlock) => (show Below w1.heap.size wq w9 from pl_below (v9 := u) (es9 := es9) hoj.out hszj hg))
        go_wp2_with (first
          | (at_builtin; refine wpList_append_c (c := plC) (sz := 2) (wq.alloc (.cells #[.int .i64 (k : Int), .int .i64 (j : Int)] 46)) (by rfl) _ _ _ (by rfl) w1.heap.size i0 _ 16 Try.underlying42 HI.out iz0 iz1 iz2 rfl (by omega) (by omega) v2 (ptsTo f k ++ ptsIn k l j) np HNP.out (by rfl) HOW.out ((k : Int), (j : Int)) rfl (by intro u hu; simp [plC] at hu; rcases hu with rfl | rfl <;> rfl) wq.heap.size _ HNX.out rfl (by rfl) hroom (by simp only [World.size_alloc]; omega) ?_; intro g9 c9 w9 ho9 hg9 ha9 hl9; have HO9 := hide ho9; have HG9 := hide (HBL.out v2 w9 [] hg9); clear ho9 hg9)
          | (go_at_call 29; refine HIS.out.mono ?_; rintro e w8 ⟨rfl, rfl⟩))
        go_roundw
        case rel => exact ⟨_, j + 1, rfl, by have := HLJ.out; omega, by go_num, HCJ.out.trans HG9.out, hide (by rw [HN.out, ← List.append_assoc]; exact HO9.out)⟩
        case measure => have := HLJ.out; simp [intOf]; omega
set_option maxHeartbeats 1000000 in
set_option maxRecDepth 100000 in
theorem rnumber_any (vk vb vs : Value) (f : FunV) (y1 y2 : Int) (w : World) (B : Nat) (hB : B ≤ w.heap.size) (hi : FunI w (· < B) vk vb vs f) (h40 : f.blocks.length ≤ 40) (hc40 : ∀ l ∈ f.blocks, l.length ≤ 40) :
    Calls Try.prog 27 #[.agg #[vk, vb, .int .i64 f.params, .int .i64 f.result, vs], .int .i64 y1, .int .i64 y2] w fun e w' => e = .returned (.int .i64 (idxP (ptsN f) (y1, y2))) ∧ Below w.heap.size w w' := by
  have HPT := hide (fun (W : World) (hW : Below w.heap.size w W) => rpoints_any vk vb vs f W B (by have := hW.size; omega) (hi.keep (up hW hB) (fun _ h => h)) h40 hc40)
  have HLE := hide (show (ptsN f).length ≤ 1000000 by have := ptsTo_len hc40 f.blocks.length; unfold ptsN; omega)
  obtain ⟨Ak, ck, rfl, -, -⟩ := hi.1.open'
  obtain ⟨Ab, cb, rfl, -, -⟩ := hi.2.1.open'
  obtain ⟨As, cs, rfl, -, -⟩ := hi.2.2.1.open'
  generalize f.kinds.length = lk, f.base.length = lb, f.params = fp, f.result = fr, ptsN f = es, f.blocks.length = ls at *
  clear hi h40 hB
  obtain ⟨n, hn⟩ : ∃ n, es.length = n := ⟨_, rfl⟩
  have HN := hide hn
  rw [hn] at HLE
  clear hn
  go_enter Try.func27, Try.ntmps27
  go_upto_region 1 with (fail)
  obtain ⟨w1, hw1⟩ : ∃ w1, w1 = w.alloc (.cells #[.slice Ak lk ck, .slice Ab lb cb, .int .i64 fp, .int .i64 fr, .slice As ls cs] 30) := ⟨_, rfl⟩
  have HX1 := hide (show Box w1 w.heap.size #[.slice Ak lk ck, .slice Ab lb cb, .int .i64 fp, .int .i64 fr, .slice As ls cs] 30 by rw [hw1]; exact Box.new w _ _)
  have HB1 := hide (show Below w.heap.size w w1 by rw [hw1]; exact alloc1 w _)
  rw [← hw1]
  clear hw1
  have l1 := HX1.out.lt
  have x0 := (HX1.out.cell 0 (v := .slice Ak lk ck) rfl).1
  have x1 := (HX1.out.cell 1 (v := .slice Ab lb cb) rfl).1
  have x2 := (HX1.out.cell 2 (v := .int .i64 fp) rfl).1
  have x3 := (HX1.out.cell 3 (v := .int .i64 fr) rfl).1
  have x4 := (HX1.out.cell 4 (v := .slice As ls cs) rfl).1
  have HP1 := hide (HPT.out w1 HB1.out)
  go_upto_region 2 with (go_at_call 25; refine HP1.out.mono ?_; rintro e w3 ⟨v3, rfl, ho3, hb3⟩; obtain ⟨A3, c3, hv3, -, -⟩ := ho3.sl; rw [HN.out] at hv3; subst hv3; have HO3 := hide ho3; have HB3 := hide (HB1.out.trans (hb3.mono HB1.out.size)); clear ho3 hb3 x0 x1 x2 x3 x4)
  go_wp2
  have hnm := HLE.out
  go_loopw [8] (fun i wr => ∃ k : Nat, k ≤ n ∧ i = .int .i64 k ∧ wr = w3 ∧ Hid ((y1, y2) ∉ es.take k)) (fun i _ => n - (intOf i).toNat)
  case atStart => exact ⟨0, Nat.zero_le _, rfl, rfl, hide (by simp)⟩
  case round =>
    obtain ⟨k, hk, rfl, rfl, HT⟩ := hrel
    by_cases hlt : k < n
    case neg =>
      have HNM := hide (show (y1, y2) ∉ es by rw [← List.take_of_length_le (show es.length ≤ k by have := HN.out; omega)]; exact HT.out)
      go_wp2
      go_ret
      exact ⟨by rw [idxP_no HNM.out]; rfl, HB3.out⟩
    have HLT := hide hlt
    obtain ⟨⟨z1, z2⟩, hy⟩ : ∃ y, es[k]? = some y := ⟨_, List.getElem?_eq_getElem (by have := HN.out; omega)⟩
    obtain ⟨g, cap, hv, -, hg, -, -, -⟩ := HO3.out.blk (by have := HN.out; omega)
    rw [HN.out] at hv
    injection hv with hA hc' hc''
    subst hA
    have a0 := (HO3.out.at' HN.out plC_len hy (i := 0) (by omega)).1
    have a1 := (HO3.out.at' HN.out plC_len hy (i := 1) (by omega)).1
    have d0 : wr.cell? ⟨g, k * 2, none⟩ = some (.int .i64 z1) := a0
    have d1 : wr.cell? ⟨g, k * 2 + 1, none⟩ = some (.int .i64 z2) := a1
    have hki : (0 : Int) ≤ (k : Int) := by omega
    have hkl : (k : Int) < (n : Int) := by omega
    have HY := hide hy
    clear hy a0 a1 hc' hc''
    by_cases he1 : z1 = y1
    · subst he1
      by_cases he2 : z2 = y2
      · subst he2
        go_wp2
        go_ret
        exact ⟨by rw [idxP_at HT.out HY.out]; rfl, HB3.out⟩
      · have HM := hide (take_step14 HT.out HY.out (fun e => he2 (by injection e with e1 e2; exact e2.symm)))
        have q : (z2 == y2) = false := by simpa using he2
        clear he2
        go_wp2
        go_roundw
        case rel => exact ⟨k + 1, by have := HLT.out; omega, by go_num, by first | rfl | trivial, HM⟩
        case measure => have := HLT.out; simp [intOf]; omega
    · have HM := hide (take_step14 HT.out HY.out (fun e => he1 (by injection e with e1 e2; exact e1.symm)))
      have q : (z1 == y1) = false := by simpa using he1
      clear he1
      go_wp2
      go_roundw
      case rel => exact ⟨k + 1, by have := HLT.out; omega, by go_num, by first | rfl | trivial, HM⟩
      case measure => have := HLT.out; simp [intOf]; omega
end Go.Proofs.Ytnoknodijombpaa
