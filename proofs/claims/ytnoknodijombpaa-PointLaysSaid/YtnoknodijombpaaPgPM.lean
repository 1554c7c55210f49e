/- Layer 14, the program: turning: the set of the blocks from which an edge turns back. Condition: the function is one that may be. -/
import Derived.Test.YtnoknodijombpaaPgPL
import Derived.Maps.OwnSet
set_option linter.unusedSimpArgs false
set_option linter.unusedVariables false
namespace Go.Proofs.Ytnoknodijombpaa
open Go.RowKit Go.Maps

def litP (k : Nat) : Lit := .int .i64 (k : Int)
theorem under_blocks14 : Try.prog.underlying 67 = some (.map 3 81) := by kernel_rfl
theorem keyed14 : Keyed Try.prog 3 := int_keyed (q := .i64) (by kernel_rfl)
theorem zero_unit14 (w : World) : (zeroValue 81).run Try.prog w = .ok (.agg #[]) w := by kernel_rfl
theorem litP_wf {k : Nat} (h : k ≤ 1000000) : (Lit.int .i64 (k : Int)).wf = true := WalkArith.wf_i64 (by omega)
theorem litP_key {k : Nat} (h : k ≤ 1000000) : keyOf Try.prog 3 (.int .i64 (k : Int)) = some (litP k) := keyOf_int_mk (q := .i64) (by kernel_rfl) (litP_wf h)
theorem litP_inj {j k : Nat} (h : litP j = litP k) : j = k := by
  unfold litP at h
  injection h with _ h
  omega
/-- Block b is a map of at most n entries, just the numbers of T. -/
def SetK (w : World) (b n : Nat) (T : Nat → Bool) : Prop := ∃ D, w.ownsMap Try.prog 3 (unitElem (H := Unit)) b n D ∧ ∀ k : Nat, Maps.has D (litP k) = T k
theorem SetK.start (w : World) : SetK (w.alloc (.map #[] 0)) w.heap.size 0 (fun _ => false) := ⟨.map [], World.ownsMap_made _ _ _ _, fun k => rfl⟩
theorem SetK.kept {w w' : World} {b n : Nat} {T : Nat → Bool} (h : SetK w b n T) (hb : w'.heap[b]? = w.heap[b]?) : SetK w' b n T := by
  obtain ⟨D, ⟨es, clock, h1, h2, h3, h4⟩, hT⟩ := h
  exact ⟨D, ⟨es, clock, hb.trans h1, h2, h3, h4⟩, hT⟩
theorem SetK.lt {w : World} {b n : Nat} {T : Nat → Bool} (h : SetK w b n T) : b < w.heap.size := by
  obtain ⟨D, ⟨es, clock, h1, -⟩, -⟩ := h
  exact (Array.getElem?_eq_some_iff.1 h1).1
theorem SetK.below {w w' : World} {b n : Nat} {T : Nat → Bool} (h : SetK w b n T) (hb : Below w.heap.size w w') : SetK w' b n T := h.kept (hb.block b h.lt)
theorem SetK.look {w : World} {b n : Nat} {T : Nat → Bool} (h : SetK w b n T) (k : Nat) (hk : k ≤ 1000000) : (Instr.lookup 67 (.map (some b)) (.int .i64 (k : Int)) true).run Try.prog w = .ok (.tuple #[.agg #[], .bool (T k)]) w := by
  obtain ⟨D, hown, hT⟩ := h
  obtain ⟨v, ps, hrun, hat⟩ := hown.look_ok (zd := .agg []) (zp := []) keyed14 under_blocks14 (zero_unit14 w) (unitElem_mk (H := Unit)) (litP_key hk)
  rw [hT k] at hrun
  obtain ⟨rfl, -⟩ := unitElem_inv hat
  exact hrun
theorem has_put14 {D : DataW Unit} (hD : IsMap D) (c k : Nat) (hc : c ≤ 1000000) : Maps.has (D.put (litP c) (.agg [])) (litP k) = (Maps.has D (litP k) || decide ((c : Int) = (k : Int))) := by
  have hkey : WideAt.IsKeyLit (litP c) := keyed14.key (litP_key hc)
  by_cases e : k = c
  · subst e
    rw [has_put_same hD hkey]
    simp
  · rw [has_put_other (fun h => e (litP_inj h))]
    have : ¬ ((c : Int) = (k : Int)) := by omega
    simp [this]
set_option maxHeartbeats 2000000 in
set_option maxRecDepth 100000 in
theorem pturning_any (vk vb vs : Value) (f : FunV) (o : List Int) (ho : OrderOf f o) (w : World) (B : Nat) (hB : B ≤ w.heap.size) (hi : FunI w (· < B) vk vb vs f) (hok : FlowOk f) (h1 : 1 ≤ f.blocks.length) :
    Calls Try.prog 44 #[.agg #[vk, vb, .int .i64 f.params, .int .i64 f.result, vs]] w fun e w' => ∃ b n, e = .returned (.map (some b)) ∧ SetK w' b n (turnsAt (turnsN f o)) ∧ w.heap.size ≤ b ∧ Below w.heap.size w w' := by
  have HTU := hide (fun (W : World) (hW : Below w.heap.size w W) => lturns_any vk vb vs f o ho W B (by have := hW.size; omega) (hi.keep (up hW hB) (fun _ h => h)) hok h1)
  have hel : (turnsN f o).length ≤ 80 := Nat.le_trans (List.length_filter_le _ _) (edgesN_len hok)
  have HNAT := hide (fun (x : Int × Int) (hx : x ∈ turnsN f o) => (show ∃ a : Nat, x.1 = (a : Int) ∧ a ≤ 1000000 from by
    obtain ⟨x1, x2⟩ := x
    obtain ⟨a, rfl, ha, -⟩ := edges_nat' (List.mem_filter.1 hx).1
    have := hok.1
    exact ⟨a, rfl, by omega⟩))
  obtain ⟨Ak, ck, rfl, -, -⟩ := hi.1.open'
  obtain ⟨Ab, cb, rfl, -, -⟩ := hi.2.1.open'
  obtain ⟨As, cs, rfl, -, -⟩ := hi.2.2.1.open'
  obtain ⟨ts, hts⟩ : ∃ ts, turnsN f o = ts := ⟨_, rfl⟩
  rw [hts] at HTU hel HNAT ⊢
  generalize f.kinds.length = lk, f.base.length = lb, f.params = fp, f.result = fr, f.blocks.length = ls at *
  obtain ⟨nt, hnt⟩ : ∃ nt, ts.length = nt := ⟨_, rfl⟩
  have HNT := hide hnt
  rw [hnt] at hel
  clear hi hok ho h1 hB hts hnt
  have hmm := @run_makeMap Try.prog
  go_enter Try.func44, Try.ntmps44
  go_upto_region 1 with (fail)
  obtain ⟨w1, hw1⟩ : ∃ w1, w1 = w.alloc (.cells #[.slice Ak lk ck, .slice Ab lb cb, .int .i64 fp, .int .i64 fr, .slice As ls cs] 30) := ⟨_, rfl⟩
  obtain ⟨h1, hh1⟩ : ∃ h1, w.heap.size = h1 := ⟨_, rfl⟩
  have HX1 := hide (show Box w1 h1 #[.slice Ak lk ck, .slice Ab lb cb, .int .i64 fp, .int .i64 fr, .slice As ls cs] 30 by rw [hw1, ← hh1]; exact Box.new w _ _)
  have HB1 := hide (show Below w.heap.size w w1 by rw [hw1]; exact alloc1 w _)
  rw [← hw1, hh1]
  clear hw1
  go_upto_region 2 with (fail)
  obtain ⟨w2, hw2⟩ : ∃ w2, w2 = w1.alloc (.map #[] 0) := ⟨_, rfl⟩
  obtain ⟨b2, hb2⟩ : ∃ b2, w1.heap.size = b2 := ⟨_, rfl⟩
  have HS2 := hide (show SetK w2 b2 0 (fun _ => false) by rw [hw2, ← hb2]; exact SetK.start w1)
  have HB2 := hide (show Below w1.heap.size w1 w2 by rw [hw2]; exact alloc1 w1 _)
  rw [← hw2, hb2]
  have HC2 := hide (HB1.out.trans (HB2.out.mono HB1.out.size))
  have HX2 := hide (HX1.out.below HB2.out)
  have HBG := hide (show h1 ≤ b2 by have := HB1.out.size; omega)
  have HH1 := hide hh1
  clear hw2 hb2 hh1 hmm
  have l2 := HX2.out.lt
  have x0 := (HX2.out.cell 0 (v := .slice Ak lk ck) rfl).1
  have x1 := (HX2.out.cell 1 (v := .slice Ab lb cb) rfl).1
  have x2 := (HX2.out.cell 2 (v := .int .i64 fp) rfl).1
  have x3 := (HX2.out.cell 3 (v := .int .i64 fr) rfl).1
  have x4 := (HX2.out.cell 4 (v := .slice As ls cs) rfl).1
  have HT2 := hide (HTU.out w2 HC2.out)
  go_upto_region 3 with (go_at_call 60; refine HT2.out.mono ?_; rintro e w3 ⟨v3, rfl, ho3, hb3⟩; obtain ⟨A3, k3, hv3, hk3, hm3, hs3⟩ := ho3.sl; rw [HNT.out] at hv3 hk3; subst hv3; have HO3 := hide (show OwC edgC 55 2 w3 w2.heap.size (.slice A3 nt k3) ts from ho3); have HK3 := hide (HS2.out.below hb3); have HC3 := hide (HC2.out.trans (hb3.mono HC2.out.size)); clear ho3 hs3 hb3 x0 x1 x2 x3 x4 l2)
  have HNB := hide HK3.out.lt
  have HW3 := hide (show w.heap.size ≤ w3.heap.size from HC3.out.size)
  go_loopw [10] (fun i wr => ∃ k : Nat, k ≤ nt ∧ i = .int .i64 k ∧ Below h1 w wr ∧ Hid (SetK wr b2 k (turnsAt (ts.take k))) ∧ w3.heap.size ≤ wr.heap.size ∧ Hid (∀ k, k < w3.heap.size → k ≠ b2 → wr.heap[k]? = w3.heap[k]?)) (fun i _ => nt - (intOf i).toNat)
  case atStart => exact ⟨0, Nat.zero_le _, rfl, by have t := HC3.out; rw [HH1.out] at t; exact t, hide HK3.out, Nat.le_refl _, hide (fun _ _ _ => rfl)⟩
  case round =>
    obtain ⟨k, hk, rfl, hb, HK, hsz, HH⟩ := hrel
    obtain ⟨wo, rfl⟩ : ∃ wo, wo = wr := ⟨_, rfl⟩
    have HBW := hide hb
    clear hb
    by_cases hlt : k < nt
    case neg =>
      have HE := hide (show SetK wo b2 k (turnsAt ts) by have t := HK.out; rwa [List.take_of_length_le (by have := HNT.out; omega)] at t)
      have HZ := hide (show w.heap.size ≤ b2 by have := HBG.out; have := HH1.out; omega)
      have HBE := hide (show Below w.heap.size w wo by have t := HBW.out; rwa [← HH1.out] at t)
      go_wp2
      go_ret
      exact ⟨b2, k, rfl, HE.out, HZ.out, HBE.out⟩
    have HLT := hide hlt
    obtain ⟨⟨y1, y2⟩, hy⟩ : ∃ y, ts[k]? = some y := ⟨_, List.getElem?_eq_getElem (by have := HNT.out; omega)⟩
    obtain ⟨c, hc1, hc2⟩ := HNAT.out (y1, y2) (List.mem_of_getElem? hy)
    simp only at hc1
    subst hc1
    obtain ⟨g, cap, hv, -, hg, -, -, hgT⟩ := HO3.out.blk (by have := HNT.out; omega)
    injection hv with hA hc' hc''
    subst hA
    have hgb : g ≠ b2 := by
      intro e
      subst e
      obtain ⟨cur, h', e1⟩ := hgT
      obtain ⟨D, ⟨es, clock, e2, -⟩, -⟩ := HK3.out
      rw [e1] at e2
      cases e2
    have a0 := (HO3.out.at' HNT.out (fun _ => rfl) hy (i := 0) (by omega)).1
    have a1 := (HO3.out.at' HNT.out (fun _ => rfl) hy (i := 1) (by omega)).1
    have d0 : wo.cell? ⟨g, k * 2, none⟩ = some (.int .i64 (c : Int)) := (World.cell?_of_block (a := ⟨g, k * 2, none⟩) (HH.out g hg hgb)).trans a0
    have d1 : wo.cell? ⟨g, k * 2 + 1, none⟩ = some (.int .i64 y2) := (World.cell?_of_block (a := ⟨g, k * 2 + 1, none⟩) (HH.out g hg hgb)).trans a1
    have hg2 : g < wo.heap.size := by omega
    have hki : (0 : Int) ≤ (k : Int) := by omega
    have hkl : (k : Int) < (nt : Int) := by omega
    have HTK := hide (show ts.take (k + 1) = ts.take k ++ [((c : Int), y2)] by rw [List.take_add_one, hy]; rfl)
    clear hy a0 a1 hgT hc' hc''
    go_upto_region 5 with (fail)
    obtain ⟨w5, hw5⟩ : ∃ w5, w5 = wo.alloc (.cells #[.int .i64 (c : Int), .int .i64 y2] 55) := ⟨_, rfl⟩
    obtain ⟨h5, hh5⟩ : ∃ h5, wo.heap.size = h5 := ⟨_, rfl⟩
    have HX5 := hide (show Box w5 h5 #[.int .i64 (c : Int), .int .i64 y2] 55 by rw [hw5, ← hh5]; exact Box.new wo _ _)
    have HB5 := hide (show Below wo.heap.size wo w5 by rw [hw5]; exact alloc1 wo _)
    rw [← hw5, hh5]
    clear hw5 hh5 d0 d1 hg2
    have hs5 := HB5.out.size
    have l5 := HX5.out.lt
    have x5 := (HX5.out.cell 0 (v := .int .i64 (c : Int)) rfl).1
    obtain ⟨D, hown, hTD⟩ := HK.out.below HB5.out
    have HOWN := hide hown
    have HTD := hide hTD
    have hroom : k < 1000000 := by omega
    clear hown hTD
    go_wp2_with (at_mapUpdate; refine wpList_mapUpdate_own _ rfl _ _ _ 67 rfl 3 81 keyed14 under_blocks14 (unitElem (H := Unit)) b2 k D rfl HOWN.out (by simp only [maxLen]; omega) _ _ (litP c) rfl rfl (litP_key hc2) _ [] (unitElem_mk (H := Unit)) ?_; intro w9 hown9 hgr9; have HO9 := hide hown9; have HG9 := hide hgr9; clear hown9 hgr9)
    go_roundw
    case rel =>
      refine ⟨k + 1, by have := HLT.out; omega, by go_num, ?_, hide ⟨_, HO9.out, fun j => ?_⟩, by have := HG9.out.size; omega, hide fun j hj hjb => ?_⟩
      · exact (HBW.out.trans (HB5.out.mono (by have := HH1.out; have := HW3.out; omega))).grown HG9.out (by have := HH1.out; have := HW3.out; omega) (fun z hz => by injection hz with hz; have := HBG.out; omega)
      · rw [has_put14 HOWN.out.isMap c j hc2, HTD.out j, HTK.out, turnsAt_snoc]
      · exact (HG9.out.block j (by omega) (fun e => hjb (by injection e))).trans ((HB5.out.block j (by omega)).trans (HH.out j hj hjb))
    case measure => have := HLT.out; simp [intOf]; omega
end Go.Proofs.Ytnoknodijombpaa
