/- Layer 14, the program: slices.Index of places, Number. Condition: no more than 40 blocks of no more than 40 instructions. -/
import Derived.Test.YtnoknodijombpaaPgPA
set_option linter.unusedSimpArgs false
set_option linter.unusedVariables false
namespace Go.Proofs.Ytnoknodijombpaa
open Go.RowKit

def idxP (es : List (Int × Int)) (e : Int × Int) : Int := if e ∈ es then ((es.idxOf e : Nat) : Int) else -1
theorem idxP_no {es : List (Int × Int)} {e : Int × Int} (h : e ∉ es) : idxP es e = -1 := by unfold idxP; rw [if_neg h]
theorem idxP_at {es : List (Int × Int)} {e : Int × Int} {k : Nat} (h : e ∉ es.take k) (hk : es[k]? = some e) : idxP es e = (k : Int) := by
  unfold idxP
  rw [if_pos (List.mem_of_getElem? hk)]
  obtain ⟨hlt, he⟩ := List.getElem?_eq_some_iff.1 hk
  have t : es = es.take k ++ es.drop k := (List.take_append_drop k es).symm
  rw [t, List.idxOf_append, if_neg h]
  have d : es.drop k = e :: es.drop (k + 1) := by rw [← he]; exact List.drop_eq_getElem_cons hlt
  rw [d, List.idxOf_cons_self, List.length_take]
  omega
theorem take_step14 {es : List (Int × Int)} {e y : Int × Int} {k : Nat} (h : e ∉ es.take k) (hk : es[k]? = some y) (hn : e ≠ y) : e ∉ es.take (k + 1) := by
  rw [List.take_add_one, hk]
  simp only [Option.toList_some, List.mem_append, List.mem_singleton, not_or]
  exact ⟨h, hn⟩
theorem plC_len (y : Int × Int) : (plC y).length = 2 := rfl
set_option maxHeartbeats 1000000 in
set_option maxRecDepth 100000 in
theorem pindex_any (v : Value) (es : List (Int × Int)) (y1 y2 : Int) (base : Nat) (w : World) (h : OwC plC 46 2 w base v es) (hl : es.length ≤ 1000000) :
    Calls Try.prog 48 #[v, .agg #[.int .i64 y1, .int .i64 y2]] w fun e w' => e = .returned (.int .i64 (idxP es (y1, y2))) ∧ Below w.heap.size w w' := by
  obtain ⟨A, c, rfl, hc, hm⟩ := h.sl
  obtain ⟨n, hn⟩ : ∃ n, es.length = n := ⟨_, rfl⟩
  have HN := hide hn
  rw [hn] at hc hl h ⊢
  have HO := hide h
  clear h hn hm
  go_enter Try.func48, Try.ntmps48
  go_upto_region 1 with (fail)
  obtain ⟨w1, hw1⟩ : ∃ w1, w1 = w.alloc (.cells #[.int .i64 y1, .int .i64 y2] 46) := ⟨_, rfl⟩
  obtain ⟨h1, hh1⟩ : ∃ h1, w.heap.size = h1 := ⟨_, rfl⟩
  have HX1 := hide (show Box w1 h1 #[.int .i64 y1, .int .i64 y2] 46 by rw [hw1, ← hh1]; exact Box.new w _ _)
  have HB1 := hide (show Below w.heap.size w w1 by rw [hw1]; exact alloc1 w _)
  rw [← hw1, hh1]
  clear hw1
  have HO1 := hide (HO.out.below HB1.out)
  have HZ1 := hide (show h1 ≤ w.heap.size by omega)
  clear hh1
  go_wp2
  go_loopw [8] (fun i wr => ∃ k : Nat, k ≤ n ∧ i = .int .i64 k ∧ Below w1.heap.size w1 wr ∧ Hid ((y1, y2) ∉ es.take k)) (fun i _ => n - (intOf i).toNat)
  case atStart => exact ⟨0, Nat.zero_le _, rfl, Below.refl _ _, hide (by simp)⟩
  case round =>
    obtain ⟨k, hk, rfl, hb, HT⟩ := hrel
    obtain ⟨wo, rfl⟩ : ∃ wo, wo = wr := ⟨_, rfl⟩
    have HBW := hide hb
    have HBE := hide (HB1.out.trans (hb.mono HB1.out.size))
    by_cases hlt : k < n
    case neg =>
      have HNM := hide (show (y1, y2) ∉ es by rw [← List.take_of_length_le (show es.length ≤ k by have := HN.out; omega)]; exact HT.out)
      clear hb
      go_wp2
      go_ret
      exact ⟨by rw [idxP_no HNM.out]; rfl, HBE.out⟩
    have HLT := hide hlt
    obtain ⟨⟨z1, z2⟩, hy⟩ : ∃ y, es[k]? = some y := ⟨_, List.getElem?_eq_getElem (by have := HN.out; omega)⟩
    obtain ⟨g, cap, hv, -, hg, -, -, -⟩ := HO1.out.blk (by have := HN.out; omega)
    rw [HN.out] at hv
    injection hv with hA hc'
    subst hA
    have HOX := HO1.out
    rw [show Value.slice (some ⟨g, 0, none⟩) n c = Value.slice (some ⟨g, 0, none⟩) n c from rfl] at HOX
    have a0 := (HOX.at' HN.out plC_len hy (i := 0) (by omega)).1
    have a1 := (HOX.at' HN.out plC_len hy (i := 1) (by omega)).1
    have d0 : wo.cell? ⟨g, k * 2, none⟩ = some (.int .i64 z1) := (hb.cell (p := ⟨g, k * 2, none⟩) hg).trans a0
    have d1 : wo.cell? ⟨g, k * 2 + 1, none⟩ = some (.int .i64 z2) := (hb.cell (p := ⟨g, k * 2 + 1, none⟩) hg).trans a1
    have b0 := ((HX1.out.below hb).cell 0 (v := .int .i64 y1) rfl).1
    have b1 := ((HX1.out.below hb).cell 1 (v := .int .i64 y2) rfl).1
    have lb := (HX1.out.below hb).lt
    have hg2 : g < wo.heap.size := by have := hb.size; omega
    have hki : (0 : Int) ≤ (k : Int) := by omega
    have hkl : (k : Int) < (n : Int) := by omega
    have HY := hide hy
    clear hb hy a0 a1 HOX
    go_upto_region 4 with (fail)
    by_cases he1 : y1 = z1
    · subst he1
      by_cases he2 : y2 = z2
      · subst he2
        go_quiet (fail)
        go_wp2
        go_ret
        exact ⟨by rw [idxP_at HT.out HY.out]; rfl, below_drewN HBE.out _⟩
      · have HM := hide (take_step14 HT.out HY.out (fun e => he2 (by injection e)))
        have q : (y2 == z2) = false := by simpa using he2
        clear he2
        go_quiet (fail)
        go_wp2
        go_roundw
        case rel => exact ⟨k + 1, by have := HLT.out; omega, by go_num, below_drewN HBW.out _, HM⟩
        case measure => have := HLT.out; simp [intOf]; omega
    · have HM := hide (take_step14 HT.out HY.out (fun e => he1 (by injection e)))
      have q : (y1 == z1) = false := by simpa using he1
      clear he1
      go_quiet (fail)
      go_wp2
      go_roundw
      case rel => exact ⟨k + 1, by have := HLT.out; omega, by go_num, below_drewN HBW.out _, HM⟩
      case measure => have := HLT.out; simp [intOf]; omega
set_option maxHeartbeats 1000000 in
set_option maxRecDepth 100000 in
theorem pnumber_any (vk vb vs : Value) (f : FunV) (b i : Int) (w : World) (B : Nat) (hB : B ≤ w.heap.size) (hi : FunI w (· < B) vk vb vs f) (h40 : f.blocks.length ≤ 40) (hc40 : ∀ l ∈ f.blocks, l.length ≤ 40) :
    Calls Try.prog 26 #[.agg #[vk, vb, .int .i64 f.params, .int .i64 f.result, vs], .int .i64 b, .int .i64 i] w fun e w' => e = .returned (.int .i64 (idxP (ptsN f) (b, i))) ∧ Below w.heap.size w w' := by
  have HPT := hide (fun (W : World) (hW : Below w.heap.size w W) => ppoints_any vk vb vs f W B (by have := hW.size; omega) (hi.keep (up hW hB) (fun _ h => h)) h40 hc40)
  have HLE := hide (show (ptsN f).length ≤ 1000000 by have := ptsTo_len hc40 f.blocks.length; unfold ptsN; omega)
  obtain ⟨Ak, ck, rfl, -, -⟩ := hi.1.open'
  obtain ⟨Ab, cb, rfl, -, -⟩ := hi.2.1.open'
  obtain ⟨As, cs, rfl, -, -⟩ := hi.2.2.1.open'
  generalize f.kinds.length = lk, f.base.length = lb, f.params = fp, f.result = fr, ptsN f = en, f.blocks.length = ls at *
  clear hi h40 hB
  go_enter Try.func26, Try.ntmps26
  go_upto_region 1 with (fail)
  obtain ⟨w1, hw1⟩ : ∃ w1, w1 = w.alloc (.cells #[.slice Ak lk ck, .slice Ab lb cb, .int .i64 fp, .int .i64 fr, .slice As ls cs] 30) := ⟨_, rfl⟩
  have HX1 := hide (show Box w1 w.heap.size #[.slice Ak lk ck, .slice Ab lb cb, .int .i64 fp, .int .i64 fr, .slice As ls cs] 30 by rw [hw1]; exact Box.new w _ _)
  have HB1 := hide (show Below w.heap.size w w1 by rw [hw1]; exact alloc1 w _)
  rw [← hw1]
  clear hw1
  have l1 := HX1.out.lt
  have x0 := (HX1.out.cell 0 (v := .slice Ak lk ck) rfl).1
  have x1 := (HX1.out.cell 1 (v := .slice Ab lb cb) rfl).1
  have x2 := (HX1.out.cell 2 (v := .int .i64 fp) rfl).1
  have x3 := (HX1.out.cell 3 (v := .int .i64 fr) rfl).1
  have x4 := (HX1.out.cell 4 (v := .slice As ls cs) rfl).1
  have HP1 := hide (HPT.out w1 HB1.out)
  go_wp2_with (first
    | (go_at_call 48; refine (pindex_any v3 en b i w1.heap.size w3 HO3.out HLE.out).mono ?_; rintro e w4 ⟨rfl, hb4⟩; have HB4 := hide (HB3.out.trans (hb4.mono HB3.out.size)); clear hb4)
    | (go_at_call 24; refine HP1.out.mono ?_; rintro e w3 ⟨v3, rfl, ho3, hb3⟩; have HO3 := hide ho3; have HB3 := hide (HB1.out.trans (hb3.mono HB1.out.size)); clear ho3 hb3 x0 x1 x2 x3 x4))
  go_ret
  exact ⟨rfl, HB4.out⟩
end Go.Proofs.Ytnoknodijombpaa
