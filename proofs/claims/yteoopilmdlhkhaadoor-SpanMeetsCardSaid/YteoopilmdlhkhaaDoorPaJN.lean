/- Layer 11, the program: live.end: what is live behind a block's last instruction. Condition: the table of parts reads as listed. -/
import Derived.Test.YteoopilmdlhkhaaDoorPaJI
set_option linter.unusedSimpArgs false
set_option linter.unusedVariables false
namespace Go.Proofs.YteoopilmdlhkhaaDoor
open Go.RowKit

/-- The set of what is live at the end of b. -/
def EndS (f : FunV) (b : Nat) (s : List Nat) : Prop := ∃ σ : Nat → List Nat, (∀ c, c < f.blocks.length → LvS f c (σ c)) ∧ s = joinL ((nxt f b).map fun n => σ n.toNat)
theorem EndS.one {f : FunV} (hok : FlowOk f) {b : Nat} {s t : List Nat} (h1 : EndS f b s) (h2 : EndS f b t) : s = t := by
  obtain ⟨σ, h1, rfl⟩ := h1
  obtain ⟨τ, h2, rfl⟩ := h2
  congr 1
  exact List.map_congr_left fun n hn => (h1 n.toNat (by have := hok.2.2 b n hn; omega)).one (h2 n.toNat (by have := hok.2.2 b n hn; omega))
theorem EndS.ok {f : FunV} (hok : FlowOk f) {b : Nat} {s : List Nat} (h : EndS f b s) : SetOk s := by
  obtain ⟨σ, h, rfl⟩ := h
  refine ⟨Nat.le_trans (joinL_lenM _) (maxLenL_le fun l hl => ?_), joinL_w64 fun l hl => ?_⟩
  · obtain ⟨n, hn, rfl⟩ := List.mem_map.1 hl
    exact (h n.toNat (by have := hok.2.2 b n hn; omega)).ok.1
  · obtain ⟨n, hn, rfl⟩ := List.mem_map.1 hl
    exact (h n.toNat (by have := hok.2.2 b n hn; omega)).ok.2
theorem EndS.tidy {f : FunV} {b : Nat} {s : List Nat} (h : EndS f b s) : Tidy s := by
  obtain ⟨σ, h, rfl⟩ := h
  exact neat_tidy _
theorem wordsV {w : World} : ∀ (us : List Value) (τ : List (List Nat)), us.length = τ.length → (∀ (j : Nat) (u : Value) (s : List Nat), us[j]? = some u → τ[j]? = some s → SetV w u s) →
    ∃ ls : List (Option Addr × Nat × List Nat), wordsOf ls = τ ∧ ls.map (fun t => Value.slice t.1 t.2.2.length t.2.1) = us ∧ ∀ t ∈ ls, Sl w w.heap.size .u64 t.1 (nI t.2.2) ∧ t.2.2.length ≤ t.2.1 ∧ t.2.1 ≤ 9223372036854775807
  | [], [], _, _ => ⟨[], rfl, rfl, fun t h => by cases h⟩
  | u :: us, s :: τ, hl, h => by
    obtain ⟨ls, h1, h2, h3⟩ := wordsV us τ (by simpa using hl) (fun j u s hu hs => h (j + 1) u s (by simpa using hu) (by simpa using hs))
    obtain ⟨A, c, rfl, k1, k2, k3⟩ := h 0 u s rfl rfl
    refine ⟨(A, c, s) :: ls, by simp [wordsOf] at h1 ⊢; exact h1, by simp [h2], fun t ht => ?_⟩
    rcases List.mem_cons.1 ht with rfl | ht
    · exact ⟨k3, k1, k2⟩
    · exact h3 t ht
theorem joinAW {w : World} {base : Nat} {v : Value} {us : List Value} {τ : List (List Nat)} (h : AW w base v us τ) (hn : us.length ≤ 1000) (hok : ∀ s ∈ τ, SetOk s) :
    Calls Tryd.prog 58 #[v] w fun e w' => ∃ r, e = .returned r ∧ WN w w' r (joinL τ) ∧ Below w.heap.size w w' := by
  obtain ⟨ls, h1, h2, h3⟩ := wordsV us τ h.len (fun j u s hu hs => (h.set j u s hu hs).v)
  have hlen : ls.length = us.length := by rw [← h2, List.length_map]
  obtain ⟨A, c, hv, -, -⟩ := rowSl h.own
  subst hv
  have hS : Sls w w.heap.size A ls := fun hp => by
    rcases h.own.2 with ⟨e, e2⟩ | ⟨g, cap, cur, e, hg, hh, hnc, hcm, hsz, htake⟩
    · omega
    · injection e with e1 e2 e3
      have hb : Box w g cur 39 := hh
      refine ⟨g, 0, e1, hb.lt, fun j t hj => ?_⟩
      have hj1 : us[j]? = some (.slice t.1 t.2.2.length t.2.1) := by rw [← h2, List.getElem?_map, hj]; rfl
      have hjl : j < us.length := (List.getElem?_eq_some_iff.1 hj1).1
      have hj2 : cur[j]? = some (.slice t.1 t.2.2.length t.2.1) := by
        have k1 : (cur.toList.take (us.length * 1))[j]? = cur.toList[j]? := List.getElem?_take_of_lt (by omega)
        rw [← Array.getElem?_toList, ← k1, htake]
        exact hj1
      rw [Nat.zero_add]
      exact (hb.cell j hj2).1
  have hG : ∀ t ∈ ls, Good w w.heap.size t := fun t ht => ⟨(h3 t ht).1, (hok t.2.2 (by rw [← h1]; exact List.mem_map.2 ⟨t, ht, rfl⟩)).2, (h3 t ht).2⟩
  have t := join_anyN A us.length c ls w hS hG hlen (by omega) (by rw [h1]; exact Nat.le_trans (maxLenL_le (n := 64) fun l hl => (hok l hl).1) (by omega))
  rw [h1] at t
  exact t.mono fun _ _ h => h.wn
theorem SetV.old {w2 w : World} {u : Value} {s : List Nat} (h : SetV w2 u s) (hb : Below w2.heap.size w2 w) {M : Nat → Prop} (hM : ∀ b, M b → w2.heap.size ≤ b) : SetM w M u s := by
  obtain ⟨A, c, h1, h2, h3, h4⟩ := h
  refine ⟨A, c, h1, h2, h3, (h4.below hb).more hb.size, fun b o e hl hm => ?_⟩
  obtain ⟨b', o', e', hb', -⟩ := h4 (by rw [nI_len]; exact hl)
  rw [e] at e'
  cases e'
  have := hM b hm
  omega
theorem bel8 {w0 w w4 w5 : World} {v : Value} (h0 : Below w0.heap.size w0 w) (hb4 : Below w.heap.size w w4) (hgr : w4.grownBy w5 v.ownBlock) (hl : ∀ k, v.ownBlock = some k → w0.heap.size ≤ k) : Below w0.heap.size w0 w5 :=
  ((h0.trans (hb4.mono h0.size)).grown hgr (by have := h0.size; have := hb4.size; omega) hl)
theorem own8 {w0 w w4 : World} {v : Value} {g n cap : Nat} (h0 : Below w0.heap.size w0 w) (hb4 : Below w.heap.size w w4) (hl : ∀ k, v.ownBlock = some k → w0.heap.size ≤ k) (hg : v.ownBlock = some g ∨ g = w4.heap.size) : ∀ k, (Value.slice (some ⟨g, 0, none⟩) n cap).ownBlock = some k → w0.heap.size ≤ k := fun k e => by
  simp [Value.ownBlock] at e
  subst e
  rcases hg with h | h
  · exact hl _ h
  · have := h0.size
    have := hb4.size
    omega
set_option maxHeartbeats 4000000 in
set_option maxRecDepth 100000 in
theorem end_any (vk vb vs : Value) (f : FunV) (b : Nat) (w : World) (B : Nat) (hB : B ≤ w.heap.size) (hi : FunI w (· < B) vk vb vs f) (hT : TabP w) (hok : FlowOk f) (hbl : b < f.blocks.length) (hne : ∀ c, c < f.blocks.length → codeOf f c ≠ []) (hfew : ∀ l ∈ f.blocks, ∀ x ∈ l, x.args.length ≤ 1099511627000) :
    Calls Tryd.prog 70 #[.agg #[vk, vb, .int .i64 f.params, .int .i64 f.result, vs], .int .i64 b] w fun e w' => ∃ r s, e = .returned r ∧ EndS f b s ∧ WN w w' r s ∧ Below w.heap.size w w' := by
  have HBG := hide (fun (W : World) (hW : Below w.heap.size w W) => begins_any vk vb vs f W B (by have := hW.size; omega) (hi.keep (up hW hB) (fun _ h => h)) (hT.below hW hT.1) hok (by omega) hne hfew)
  have HNX := hide (fun (W : World) (hW : Below w.heap.size w W) => fnextN_any vk vb vs f (b : Int) W B (by have := hW.size; omega) (hi.keep (up hW hB) (fun _ h => h)) hok)
  obtain ⟨nx, hnx⟩ : ∃ nx, nxtI f (b : Int) = nx := ⟨_, rfl⟩
  have hnx2 : nxt f b = nx := by rw [← hnx]; unfold nxtI; rw [if_pos (by unfold inB; simp; omega)]; rfl
  have HNR := hide (fun (n : Int) (h : n ∈ nx) => (hok.2.2 b n (by rw [hnx2]; exact h)))
  have hnl2 : nx.length ≤ 2 := by rw [← hnx2]; exact nxt_len f b
  have HES := hide (fun (σ : Nat → List Nat) (h : ∀ c, c < f.blocks.length → LvS f c (σ c)) => (show EndS f b (joinL (nx.map fun n => σ n.toNat)) by rw [← hnx2]; exact ⟨σ, h, rfl⟩))
  rw [hnx] at HNX
  obtain ⟨Ak, ck, rfl, hck, hmk⟩ := hi.1.open'
  obtain ⟨Ab, cb, rfl, hcb, hmb⟩ := hi.2.1.open'
  obtain ⟨As, cs, rfl, hcs, hms⟩ := hi.2.2.1.open'
  obtain ⟨nn, hnn⟩ : ∃ nn, nx.length = nn := ⟨_, rfl⟩
  have HNN := hide hnn
  obtain ⟨ls, hls2⟩ : ∃ ls, f.blocks.length = ls := ⟨_, rfl⟩
  rw [hls2] at HBG HNX HNR HES hbl hcs ⊢
  rw [hnn] at HNX hnl2
  clear hi hT hB hne hfew hls2 hok hnx hnx2 hnn
  generalize f.kinds.length = lk, f.base.length = lb, f.params = fp, f.result = fr at *
  go_enter Tryd.func70, Tryd.ntmps70
  go_upto_region 1 with (fail)
  obtain ⟨w1, hw1⟩ : ∃ w1, w1 = w.alloc (.cells #[.slice Ak lk ck, .slice Ab lb cb, .int .i64 fp, .int .i64 fr, .slice As ls cs] 34) := ⟨_, rfl⟩
  obtain ⟨h5, hh5⟩ : ∃ h5, w.heap.size = h5 := ⟨_, rfl⟩
  have HX0 := hide (show Box w1 (h5) #[.slice Ak lk ck, .slice Ab lb cb, .int .i64 fp, .int .i64 fr, .slice As ls cs] 34 by rw [hw1, ← hh5]; have t := Box.new w #[.slice Ak lk ck, .slice Ab lb cb, .int .i64 fp, .int .i64 fr, .slice As ls cs] 34; (try simp only [World.size_alloc] at t); exact t)
  have HB1 := hide (show Below w.heap.size w w1 by rw [hw1]; exact ((Below.refl _ _).alloc (Nat.le_refl _) _))
  have w1s := HB1.out.size
  have w1z := hide (show w1.heap.size = h5 + 1 by rw [hw1, ← hh5]; simp only [World.size_alloc])
  have HK0 := hide (fun (W : World) (hW : Below w1.heap.size w1 W) => (And.intro ((HX0.out.below hW).cell 0 (v := .slice Ak lk ck) rfl).1 (And.intro ((HX0.out.below hW).cell 1 (v := .slice Ab lb cb) rfl).1 (And.intro ((HX0.out.below hW).cell 2 (v := .int .i64 fp) rfl).1 (And.intro ((HX0.out.below hW).cell 3 (v := .int .i64 fr) rfl).1 ((HX0.out.below hW).cell 4 (v := .slice As ls cs) rfl).1)))))
  have lHX0 := HX0.out.lt
  have h5g : w.heap.size ≤ h5 := by omega
  rw [← hw1, hh5]
  clear hw1 hh5
  obtain ⟨c0, c1, c2, c3, c4⟩ := HK0.out w1 (Below.refl _ _)
  go_wp2_with (first
    | (go_at_call 62; (with_reducible refine (HNX.out w2 HB2.out).mono ?_); rintro e w3 ⟨An, cn, rfl, hs3, hn3, -, -, hb3⟩; have HS3 := hide hs3; have HC3 := hide hb3; have HB3 := hide (HB2.out.trans (hb3.mono HB2.out.size)); have l3 := hb3.size; clear hs3 hb3)
    | (go_at_call 80; (with_reducible refine (HBG.out w1 HB1.out).mono ?_); rintro e w2 ⟨gl, capl, us, σ, rfl, hgc, hgm, hlw, hlv, hgl, hb2⟩; have HLW := hide hlw; have HLV := hide hlv; have HB2 := hide (HB1.out.trans (hb2.mono HB1.out.size)); have l2 := hb2.size; obtain ⟨q0, q1, q2, q3, q4⟩ := HK0.out w2 hb2; clear hlw hlv hb2 c0 c1 c2 c3 c4))
  clear q0 q1 q2 q3 q4
  have HLV2 := hide (HES.out σ HLV.out)
  have HTOK := hide (fun c (hc : c < ls) => (HLV.out c hc).ok)
  have lgl := HLW.out.lt
  go_loopw [6, 15] (fun v i wr => ∃ (k : Nat) (us' : List Value), k ≤ nn ∧ i = .int .i64 k ∧ Hid (AW wr 0 v us' ((nx.take k).map fun n => σ n.toNat)) ∧ Hid (∀ g, v.ownBlock = some g → w3.heap.size ≤ g) ∧ Below w3.heap.size w3 wr) (fun _ i _ => nn - (intOf i).toNat)
  case atStart => exact ⟨0, [], Nat.zero_le _, rfl, hide (AW.nil _ _), hide (fun g e => by simp [Value.ownBlock] at e), Below.refl _ _⟩
  case round =>
    obtain ⟨k, us', hk, rfl, HAW, HOB, hb⟩ := hrel
    obtain ⟨wo, rfl⟩ : ∃ wo, wo = wr := ⟨_, rfl⟩
    have HC := hide hb
    have lwo := hb.size
    have HW := hide (HB3.out.trans (hb.mono HB3.out.size))
    have HC2 := hide (HC3.out.trans (hb.mono HC3.out.size))
    clear hb
    obtain ⟨Av, cv, hv, hnv, hcv⟩ := rowSl HAW.out.own
    obtain ⟨nv, hnv2⟩ : ∃ n, us'.length = n := ⟨_, rfl⟩
    have hnk : nv = k := by rw [← hnv2, HAW.out.len, List.length_map, List.length_take]; have := HNN.out; omega
    rw [hnv2] at hv hnv
    subst hnk
    subst hv
    have HNV := hide hnv2
    clear hnv2
    by_cases hlt : nv < nn
    case neg =>
      obtain rfl : nn = nv := by omega
      have hnl : ¬ ((nn : Int) < (nn : Int)) := by omega
      have HTK := hide (show nx.take nn = nx from List.take_of_length_le (by have := HNN.out; omega))
      have HJN := hide (show Calls Tryd.prog 58 #[.slice Av nn cv] wo fun e w' => ∃ r, e = .returned r ∧ WN wo w' r (joinL (nx.map fun n => σ n.toNat)) ∧ Below wo.heap.size wo w' by
        have t := joinAW HAW.out (by rw [HNV.out]; omega) (fun s hs => by
          obtain ⟨n, hn, rfl⟩ := List.mem_map.1 hs
          have := HNR.out n (List.mem_of_mem_take hn)
          exact HTOK.out n.toNat (by omega))
        rw [HTK.out] at t
        exact t)
      go_wp2_with (go_at_call 58; refine HJN.out.mono ?_; rintro e w9 ⟨r, rfl, hw9, hb9⟩; have HW9 := hide (hw9.lower HW.out.size); have HB9 := hide (HW.out.trans (hb9.mono HW.out.size)); clear hw9 hb9)
      go_ret
      exact ⟨r, _, rfl, HLV2.out, HW9.out, HB9.out⟩
    have HLT := hide hlt
    obtain ⟨z, hz⟩ : ∃ z, nx[nv]? = some z := ⟨_, List.getElem?_eq_getElem (by have := HNN.out; omega)⟩
    obtain ⟨n, rfl⟩ : ∃ n : Nat, z = (n : Int) := ⟨z.toNat, by have := HNR.out z (List.mem_of_getElem? hz); omega⟩
    have hn1 : n < ls := by have := HNR.out _ (List.mem_of_getElem? hz); omega
    have HTS := hide (show (nx.take (nv + 1)).map (fun n => σ n.toNat) = (nx.take nv).map (fun n => σ n.toNat) ++ [σ n] by rw [take_snoc hz, List.map_append]; simp)
    obtain ⟨g7, o7, e7, hg7, hc7⟩ := HS3.out (by have := HNN.out; omega)
    have q7 : wo.cell? ⟨g7, o7 + nv, none⟩ = some (.int .i64 (n : Int)) := (World.cell?_of_block (a := ⟨g7, o7 + nv, none⟩) (HC.out.block g7 hg7)).trans ((hc7 nv (by have := HNN.out; omega)).trans (by rw [show nx.getD nv 0 = (n : Int) by simp [List.getD, hz]]))
    subst e7
    obtain ⟨Al, cl, -, ql, -, hsl⟩ := (HLW.out.below HC2.out).cell hn1
    have HSL := hide (show SetM wo (fun b => (Value.slice Av nv cv).ownBlock = some b ∨ b < 0) (us n) (σ n) from (HLW.out.set n hn1).v.old HC2.out (fun b hb => by
      rcases hb with hb | hb
      · have := HOB.out b hb; omega
      · omega))
    obtain ⟨Al2, cl2, hul, ql2, -, -⟩ := (HLW.out.below HC2.out).cell hn1
    obtain ⟨nl, hnl2⟩ : ∃ nl, (σ n).length = nl := ⟨_, rfl⟩
    rw [hul, hnl2] at HSL
    rw [hnl2] at ql2
    have hn0 : (0 : Int) ≤ (n : Int) := by omega
    have hn2 : (n : Int) < (ls : Int) := by omega
    clear ql hsl hc7 hz hlt hul hnl2
    go_wp2_with (at_builtin; refine wpList_append_set (w := wo) (by rfl) _ _ (by rfl) 0 (.slice Av nv cv) us' nv HNV.out (by rfl) HAW.out.own Al2 nl cl2 (by rfl) (by omega) (Nat.zero_le _) ?_; intro g8 cap8 w8 ho8 hg8 hgg8 hlt8; have HAW8 := hide (HAW.out.app (v5 := .slice (some ⟨g8, 0, none⟩) (nv + 1) cap8) HSL.out (alloc1 wo _) hg8 (by rw [HNV.out]; exact ho8) (hv5' (alloc1 wo _) hgg8)); have HB8 := hide (bel8 HC.out (alloc1 wo _) hg8 HOB.out); have HOB8 := hide (own8 (n := nv + 1) (cap := cap8) HC.out (alloc1 wo _) HOB.out hgg8); clear ho8 hg8 hgg8)
    go_roundw
    case rel => exact ⟨nv + 1, us' ++ [.slice Al2 nl cl2], (by have := HLT.out; omega), by go_num, by rw [HTS.out]; exact HAW8, HOB8, HB8.out⟩
    case measure => have := HLT.out; simp [intOf]; omega
end Go.Proofs.YteoopilmdlhkhaaDoor
