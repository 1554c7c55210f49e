/- Layer 13: the reference's critical edges. No condition. -/
import Derived.Test.YtnoknodijombpaaPgDQ
import Derived.Deep.RegionHeld3
set_option linter.unusedSimpArgs false
set_option linter.unusedVariables false
namespace Go.Proofs.Ytnoknodijombpaa
open Go.RowKit

def crTo (f : FunV) (es : List (Int × Int)) (k : Nat) : List (Int × Int) := (es.take k).filter (critB f)
theorem crTo_step {f : FunV} {es : List (Int × Int)} {k : Nat} {e : Int × Int} (h : es[k]? = some e) : crTo f es (k + 1) = crTo f es k ++ if critB f e = true then [e] else [] := by
  unfold crTo
  rw [List.take_add_one, h, List.filter_append]
  simp only [Option.toList_some, List.filter_cons, List.filter_nil]
theorem crTo_len (f : FunV) (es : List (Int × Int)) (k : Nat) : (crTo f es k).length ≤ k := Nat.le_trans (List.length_filter_le _ _) (by simp [List.length_take]; omega)
theorem crTo_all {f : FunV} {es : List (Int × Int)} {k : Nat} (h : es.length ≤ k) : crTo f es k = es.filter (critB f) := by unfold crTo; rw [List.take_of_length_le h]
theorem critB_nat {f : FunV} {a : Nat} {b : Int} : critB f ((a : Int), b) = (decide (2 ≤ (nxt f a).length) && decide (2 ≤ (prevN f b).length)) := rfl
set_option maxHeartbeats 4000000 in
set_option maxRecDepth 100000 in
theorem rcritical_any (vk vb vs : Value) (f : FunV) (w : World) (B : Nat) (hB : B ≤ w.heap.size) (hi : FunI w (· < B) vk vb vs f) (hok : FlowOk f) :
    Calls Try.prog 13 #[.agg #[vk, vb, .int .i64 f.params, .int .i64 f.result, vs]] w fun e w' => ∃ v, e = .returned v ∧ OwE w' w.heap.size v (critN f) ∧ Below w.heap.size w w' := by
  have HEX := hide (fun (W : World) (hW : Below w.heap.size w W) => redges_any vk vb vs f W B (by have := hW.size; omega) (hi.keep (up hW hB) (fun _ h => h)) hok)
  have HPV := hide (fun (z : Int) (W : World) (hW : Below w.heap.size w W) => (rprev_any vk vb vs f z W B (by have := hW.size; omega) (hi.keep (up hW hB) (fun _ h => h)) hok).mono (R' := fun e w' => ∃ A c, e = .returned (.slice A (prevN f z).length c) ∧ Below W.heap.size W w') (fun e w' ⟨v, h1, h2, h3⟩ => by obtain ⟨A, c, q1, -, -, -⟩ := h2.sl; exact ⟨A, c, by rw [h1, q1], h3⟩))
  have HNX := hide (fun (k : Nat) (hk : k < f.blocks.length) (W : World) (hW : Below w.heap.size w W) => (show Calls Try.prog 39 #[.agg #[vk, vb, .int .i64 f.params, .int .i64 f.result, vs], .int .i64 (k : Int)] W fun e w' => ∃ A c, e = .returned (.slice A (nxt f k).length c) ∧ Below W.heap.size W w' by
    have h := rnextN_any vk vb vs f (k : Int) W B (by have := hW.size; omega) (hi.keep (up hW hB) (fun _ h => h)) hok
    rw [nxtI_nat hk] at h
    exact h.mono (fun e w' ⟨A, c, h1, _, _, _, _, h2⟩ => ⟨A, c, h1, h2⟩)))
  have hel := edgesN_len hok
  have HMEM := hide (fun (e : Int × Int) (he : e ∈ edgesN f) => @edgesN_mem f e he)
  have HTN := hide (show (edgesN f).filter (critB f) = critN f from rfl)
  have HPL := hide (fun (z : Int) => prevN_len80 hok z)
  obtain ⟨i0, hi0, iz0, iz1, iz2⟩ := info_parts info_edge
  have HI := hide hi0
  obtain ⟨Ak, ck, rfl, hck, hmk⟩ := hi.1.open'
  obtain ⟨Ab, cb, rfl, hcb, hmb⟩ := hi.2.1.open'
  obtain ⟨As, cs, rfl, hcs, hms⟩ := hi.2.2.1.open'
  obtain ⟨es, hes⟩ : ∃ es, edgesN f = es := ⟨_, rfl⟩
  rw [hes] at HEX HTN hel HMEM
  obtain ⟨n, hne⟩ : ∃ n, es.length = n := ⟨_, rfl⟩
  have HN := hide hne
  rw [hne] at hel
  have HFA := hide (fun k (h : n ≤ k) => @crTo_all f es k (by omega))
  have HFS := hide (fun k (e : Int × Int) (h : es[k]? = some e) => @crTo_step f es k e h)
  have HFL := hide (fun k => crTo_len f es k)
  generalize f.kinds.length = lk, f.base.length = lb, f.blocks.length = ls, f.params = fp, f.result = fr at *
  clear hi hok hes hne hi0
  go_enter Try.func13, Try.ntmps13
  go_upto_region 1 with (fail)
  obtain ⟨w1, hw1⟩ : ∃ w1, w1 = w.alloc (.cells #[.slice Ak lk ck, .slice Ab lb cb, .int .i64 fp, .int .i64 fr, .slice As ls cs] 30) := ⟨_, rfl⟩
  obtain ⟨h5, hh5⟩ : ∃ h5, w.heap.size = h5 := ⟨_, rfl⟩
  have HX1 := hide (show Box w1 h5 #[.slice Ak lk ck, .slice Ab lb cb, .int .i64 fp, .int .i64 fr, .slice As ls cs] 30 by rw [hw1, ← hh5]; exact Box.new w _ _)
  have HB1 := hide (show Below w.heap.size w w1 by rw [hw1]; exact alloc1 w _)
  have HK1 := hide (fun (W : World) (hW : Below w1.heap.size w1 W) => And.intro ((HX1.out.below hW).cell 0 (v := .slice Ak lk ck) rfl).1 (And.intro ((HX1.out.below hW).cell 1 (v := .slice Ab lb cb) rfl).1 (And.intro ((HX1.out.below hW).cell 2 (v := .int .i64 fp) rfl).1 (And.intro ((HX1.out.below hW).cell 3 (v := .int .i64 fr) rfl).1 ((HX1.out.below hW).cell 4 (v := .slice As ls cs) rfl).1))))
  have HUP := hide (fun (W : World) (hW : Below w1.heap.size w1 W) => HB1.out.trans (hW.mono HB1.out.size))
  have l1 := HX1.out.lt
  have hw1s := HB1.out.size
  rw [← hw1, hh5]
  clear hw1 hh5
  obtain ⟨c0, c1, c2, c3, c4⟩ := HK1.out w1 (Below.refl _ _)
  go_upto_region 2 with (go_at_call 38; refine (HEX.out w1 HB1.out).mono ?_; rintro e w3 ⟨v3, rfl, ho3, hb3⟩; obtain ⟨A3, k3, hv3, hle3, hme3, hs3⟩ := ho3.sl; rw [HN.out] at hv3 hle3; have HS3 := hide hs3; have HB3 := hide hb3; subst hv3; clear hb3 ho3 hs3)
  clear c0 c1 c2 c3 c4
  have hz3 := HB3.out.size
  have l3 : h5 < w3.heap.size := by omega
  clear hme3
  go_wp2
  go_loopw [4, 5] (fun l i wr => ∃ (v : Value) (k : Nat), v = l ∧ k ≤ n ∧ i = .int .i64 k ∧ Below w3.heap.size w3 wr ∧ Hid (OwE wr w3.heap.size v (crTo f es k))) (fun _ i _ => n - (intOf i).toNat)
  case atStart => exact ⟨_, 0, rfl, Nat.zero_le _, rfl, Below.refl _ _, hide (OwE.nil _ _)⟩
  case round =>
    obtain ⟨v, k, rfl, hk, rfl, hb', how⟩ := hrel
    obtain ⟨wo, rfl⟩ : ∃ wo, wo = wr := ⟨_, rfl⟩
    have hsz := hb'.size
    have HBW := hide hb'
    clear hb'
    by_cases hlt : k < n
    case neg =>
      have HF := hide (HUP.out w3 HB3.out)
      have HO := hide (show OwE wo w.heap.size v (critN f) by rw [← HTN.out, ← HFA.out k (by omega)]; exact how.out.lower HF.out.size)
      go_wp2
      go_ret
      exact ⟨_, rfl, HO.out, HF.out.trans (HBW.out.mono HF.out.size)⟩
    obtain ⟨y, hy⟩ : ∃ y, es[k]? = some y := ⟨_, List.getElem?_eq_getElem (by have := HN.out; omega)⟩
    obtain ⟨be, oe, rfl, hbe, hce'⟩ := HS3.out (by have := HN.out; omega)
    obtain ⟨y1, y2⟩ := hce' k y hy
    have HD1 := hide ((HBW.out.cell (p := ⟨be, oe + k * 2, none⟩) hbe).trans y1)
    have HD2 := hide ((HBW.out.cell (p := ⟨be, oe + k * 2 + 1, none⟩) hbe).trans y2)
    have hbs : be < wo.heap.size := by omega
    obtain ⟨a, hya, hal, -⟩ := HMEM.out y (List.mem_of_getElem? hy)
    have hfl := HFL.out k
    have hro : (crTo f es k).length < 1000000 := by omega
    have HRO := hide hro
    obtain ⟨ya, yb⟩ := y
    simp only at HD1 HD2 hya
    subst hya
    have HST := hide (HFS.out k _ hy)
    rw [critB_nat] at HST
    have HCO := hide (HB3.out.trans (HBW.out.mono hz3))
    have HNK := hide (fun (W : World) (hW : Below wo.heap.size wo W) => HNX.out a hal W (HUP.out W (HCO.out.trans (hW.mono HCO.out.size))))
    have HPK := hide (fun (W : World) (hW : Below wo.heap.size wo W) => HPV.out yb W (HUP.out W (HCO.out.trans (hW.mono HCO.out.size))))
    have hpl := HPL.out yb
    have hnl := nxt_len f a
    obtain ⟨nn, hnn⟩ : ∃ nn, (nxt f a).length = nn := ⟨_, rfl⟩
    obtain ⟨np, hnp⟩ : ∃ np, (prevN f yb).length = np := ⟨_, rfl⟩
    rw [hnn] at HNK HST hnl
    rw [hnp] at HPK HST hpl
    clear hnn hnp hy y1 y2 hce' hro hfl
    have HKO := hide (fun (W : World) (hW : Below wo.heap.size wo W) => And.intro (HK1.out W (HCO.out.trans (hW.mono HCO.out.size))) (And.intro ((hW.cell (p := ⟨be, oe + k * 2, none⟩) hbs).trans HD1.out) ((hW.cell (p := ⟨be, oe + k * 2 + 1, none⟩) hbs).trans HD2.out)))
    obtain ⟨⟨c0, c1, c2, c3, c4⟩, d1, d2⟩ := HKO.out wo (Below.refl _ _)
    have kk1 : (0 : Int) ≤ (k : Int) := by omega
    have kk2 : (k : Int) < (n : Int) := by omega
    have lo5 : h5 < wo.heap.size := by have := HCO.out.size; omega
    by_cases hn2 : 1 < nn
    case neg =>
      have hn2i : ¬ (1 : Int) < (nn : Int) := by omega
      rw [show decide (2 ≤ nn) = false from decide_eq_false (by omega)] at HST
      go_upto_region 6 with (fail)
      first
        | go_region_with (go_at_call 39; refine (HNK.out _ (below_drewN (Below.refl _ _) 1)).mono ?_; rintro e w6 ⟨A6, k6, rfl, hb⟩; have hc6 : Below wo.heap.size wo w6 := ⟨hb.os, hb.tape, hb.output, hb.size, hb.block⟩; have HC6 := hide hc6; clear hb hc6)
        | fail
      all_goals
        go_wp2
        go_roundw
        case rel => exact ⟨v, k + 1, rfl, by omega, by go_num, HBW.out.trans (HC6.out.mono hsz), hide (by rw [HST.out]; simpa using how.out.below HC6.out)⟩
        case measure => simp [intOf]; omega
    have hn2i : (1 : Int) < (nn : Int) := by omega
    rw [show decide (2 ≤ nn) = true from decide_eq_true (by omega)] at HST
    go_upto_region 6 with (fail)
    go_region_held3 (fun w' => (w'.cell? ⟨h5, 0, none⟩ = some (.slice Ak lk ck) ∧ w'.cell? ⟨h5, 1, none⟩ = some (.slice Ab lb cb) ∧ w'.cell? ⟨h5, 2, none⟩ = some (.int .i64 fp) ∧ w'.cell? ⟨h5, 3, none⟩ = some (.int .i64 fr) ∧ w'.cell? ⟨h5, 4, none⟩ = some (.slice As ls cs)) ∧ w'.cell? ⟨be, oe + k * 2, none⟩ = some (.int .i64 (a : Int)) ∧ w'.cell? ⟨be, oe + k * 2 + 1, none⟩ = some (.int .i64 yb)) (first | go_keep | (exact q7) | (exact q6))
      (first
        | (go_at_call 40; refine (HPK.out w6 HC6.out).mono ?_; rintro e w7 ⟨A7, k7, rfl, hb⟩; have hc7 := HC6.out.trans (hb.mono HC6.out.size); have q7 := HKO.out w7 hc7; have HC7 := hide hc7; clear hb hc7)
        | (go_at_call 39; refine (HNK.out _ (below_drewN (Below.refl _ _) 1)).mono ?_; rintro e w6 ⟨A6, k6, rfl, hb⟩; have hc6 : Below wo.heap.size wo w6 := ⟨hb.os, hb.tape, hb.output, hb.size, hb.block⟩; have q6 := HKO.out w6 hc6; have HC6 := hide hc6; clear hb hc6))
    all_goals
      have e1 := q7.2.1
      have e2 := q7.2.2
      have hbp : be < w7.heap.size := by have := HC7.out.size; omega
      have hszp : w3.heap.size ≤ w7.heap.size := by have := HC7.out.size; omega
      have HOP := hide (how.out.below HC7.out)
      by_cases hp2 : 1 < np
      case neg =>
        have hp2i : ¬ (1 : Int) < (np : Int) := by omega
        rw [show decide (2 ≤ np) = false from decide_eq_false (by omega)] at HST
        go_wp2
        go_roundw
        case rel => exact ⟨v, k + 1, rfl, by omega, by go_num, HBW.out.trans (HC7.out.mono hsz), hide (by rw [HST.out]; simpa using HOP.out)⟩
        case measure => simp [intOf]; omega
      have hp2i : (1 : Int) < (np : Int) := by omega
      rw [show decide (2 ≤ np) = true from decide_eq_true (by omega)] at HST
      go_wp2_with (at_builtin; refine wpList_append_edge w7 rfl (.tmp 34) (.tmp 39) _ rfl w3.heap.size i0 _ Try.underlying35 HI.out iz0 iz1 iz2 rfl v (crTo f es k) (by rfl) HOP.out (a : Int) yb (by rfl) HRO.out hszp ?_; intro v8 w8 ho8 hb8 hf8 hv8)
      go_roundw
      case rel => exact ⟨v8, k + 1, rfl, by omega, by go_num, (HBW.out.trans (HC7.out.mono hsz)).trans hb8, hide (by rw [HST.out]; exact ho8)⟩
      case measure => simp [intOf]; omega
end Go.Proofs.Ytnoknodijombpaa
