/- Layer 11, the program: lists of sets that are appended to; live.asks, live.sets. Condition: the table of parts reads as listed; no argument list is longer than a machine's memory. -/
import Derived.Test.YteoopilmdlhkhaaDoorPaJB
import Derived.Test.YteoopilmdlhkhaaDoorPaJM
import Derived.Deep.AppendLies
set_option linter.unusedSimpArgs false
set_option linter.unusedVariables false
namespace Go.Proofs.YteoopilmdlhkhaaDoor
open Go.RowKit

/-- An own list of sets: the slice value v, the values of its cells, the sets; no set lies in the list's own block. -/
structure AW (w : World) (base : Nat) (v : Value) (us : List Value) (τ : List (List Nat)) : Prop where
  own : w.ownsRow base 39 1 v us.length us
  len : us.length = τ.length
  set : ∀ (j : Nat) (u : Value) (s : List Nat), us[j]? = some u → τ[j]? = some s → SetM w (fun b => v.ownBlock = some b ∨ b < base) u s
theorem rowKept {T : TypeId} {w w' : World} {base n : Nat} {v : Value} {us : List Value} (h : w.ownsRow base T 1 v n us) (hk : ∀ g, v.ownBlock = some g → w'.heap[g]? = w.heap[g]?) : w'.ownsRow base T 1 v n us := by
  refine ⟨h.1, ?_⟩
  rcases h.2 with h2 | ⟨g, cap, cur, hv, hg, hh, r⟩
  · exact .inl h2
  · exact .inr ⟨g, cap, cur, hv, hg, (hk g (by rw [hv]; rfl)).trans hh, r⟩
theorem rowSl {T : TypeId} {w : World} {base n : Nat} {v : Value} {us : List Value} (h : w.ownsRow base T 1 v n us) : ∃ A c, v = .slice A n c ∧ n ≤ c ∧ c ≤ maxLen := by
  rcases h.2 with ⟨rfl, h0⟩ | ⟨g, cap, cur, rfl, hg, hh, hnc, hcm, -⟩
  · exact ⟨none, 0, by rw [h0], by omega, by simp [maxLen]⟩
  · exact ⟨_, _, rfl, hnc, hcm⟩
section
variable {w w' w4 w5 : World} {base : Nat} {v v5 u : Value} {us : List Value} {τ : List (List Nat)} {s : List Nat}
theorem AW.nil (w : World) (base : Nat) : AW w base (.slice none 0 0) [] [] := ⟨World.ownsRow_nil _ _ _ _, rfl, fun j u s h => by simp at h⟩
theorem AW.lt (h : AW w base v us τ) : ∀ k, v.ownBlock = some k → base ≤ k ∧ k < w.heap.size := World.ownsRow.lt h.own
theorem AW.below (h : AW w base v us τ) (hb : Below w.heap.size w w') : AW w' base v us τ := ⟨rowKept h.own fun g hg => hb.block g (h.lt g hg).2, h.len, fun j u s h1 h2 => (h.set j u s h1 h2).below hb⟩
theorem rowLower {T : TypeId} {n b : Nat} (h : w.ownsRow base T 1 v n us) (hb : b ≤ base) : w.ownsRow b T 1 v n us := by
  refine ⟨h.1, ?_⟩
  rcases h.2 with h2 | ⟨g, cap, cur, hv, hg, r⟩
  · exact .inl h2
  · exact .inr ⟨g, cap, cur, hv, by omega, r⟩
theorem AW.lower (h : AW w base v us τ) {b : Nat} (hb : b ≤ base) : AW w b v us τ := ⟨rowLower h.own hb, h.len, fun j u s h1 h2 => (h.set j u s h1 h2).keep (Nat.le_refl _) (fun _ _ _ => rfl) (fun x _ hx => hx.imp id (fun h => by omega))⟩
theorem AW.app (h : AW w base v us τ) (hu : SetM w (fun b => v.ownBlock = some b ∨ b < base) u s) (hb4 : Below w.heap.size w w4) (hgr : w4.grownBy w5 v.ownBlock) (hr5 : w5.ownsRow base 39 1 v5 (us.length + 1) (us ++ [u])) (hv5 : ∀ b, v5.ownBlock = some b → v.ownBlock = some b ∨ w.heap.size ≤ b) : AW w5 base v5 (us ++ [u]) (τ ++ [s]) := by
  have hz : w.heap.size ≤ w5.heap.size := Nat.le_trans hb4.size hgr.size
  have hk : ∀ b, b < w.heap.size → ¬ (v.ownBlock = some b ∨ b < base) → w5.heap[b]? = w.heap[b]? := fun b hb hn => (hgr.block b (by have := hb4.size; omega) (fun e => hn (.inl e.symm))).trans (hb4.block b hb)
  have hM : ∀ b, b < w.heap.size → (v5.ownBlock = some b ∨ b < base) → (v.ownBlock = some b ∨ b < base) := fun b hb e => by
    rcases e with e | e
    · rcases hv5 b e with h1 | h1
      · exact .inl h1
      · omega
    · exact .inr e
  refine ⟨by rw [List.length_append]; exact hr5, by simp [h.len], fun j x t hx ht => ?_⟩
  by_cases hj : j < us.length
  · rw [List.getElem?_append_left hj] at hx
    rw [List.getElem?_append_left (by rw [← h.len]; exact hj)] at ht
    exact (h.set j x t hx ht).keep hz hk hM
  · rw [List.getElem?_append_right (by omega)] at hx
    rw [List.getElem?_append_right (by rw [← h.len]; omega), ← h.len] at ht
    have h0 : j - us.length = 0 := by
      have := (List.getElem?_eq_some_iff.1 hx).1
      simp at this
      omega
    rw [h0] at hx ht
    simp at hx ht
    subst hx
    subst ht
    exact hu.keep hz hk hM
end
theorem frS {w w' : World} {h : Nat} {A : Option Addr} {c : Nat} {s : List Nat} {M : Nat → Prop} (hf : FrA h none A) (hv : SetV w (.slice A s.length c) s) (hM : ∀ b, M b → b < h) : SetM w M (.slice A s.length c) s := by
  obtain ⟨A', c', e, h1, h2, h3⟩ := hv
  cases e
  exact ⟨A, c, rfl, h1, h2, h3, fun b o e hp hm => by
    rcases hf with rfl | hf
    · cases e
    · have := hf b o e
      have := hM b hm
      omega⟩
theorem few_code {f : FunV} (h : ∀ l ∈ f.blocks, ∀ x ∈ l, x.args.length ≤ 1099511627000) {b : Nat} {l : List InsV} (hl : f.blocks[b]? = some l) : ∀ x ∈ l, x.args.length ≤ 1099511627000 := h l (List.mem_of_getElem? hl)
theorem info_sl64 : (Tryd.prog.info? 39).map (fun i => (i.zero, i.size, i.bytes)) = some (some (.slice none 0 0), 1, 24) := by kernel_rfl
/-- append(l, u) in a plain region: l the call's own list of sets, u laid in a block of its own. -/
theorem wpList_append_set {w : World} {ops : Array Oper} {rest : List Oper} {o : Oper} {a : Act} {Q : Exit → Act → World → Prop} (hgd : o.guard = none) (sx x : Operand)
    (ho : o.op = .call { callee := .builtin .append, args := #[sx, x], argTypes := #[119, 119] })
    (base : Nat) (v : Value) (us : List Value) (n : Nat) (hln : us.length = n) (hs : a.eval sx = v) (hown : w.ownsRow base 39 1 v us.length us) (A : Option Addr) (m c : Nat)
    (hx : a.eval x = .slice (some ⟨w.heap.size, 0, none⟩) 1 1) (hroom : n < 1000000) (hbase : base ≤ w.heap.size)
    (h : ∀ g cap w', w'.ownsRow base 39 1 (.slice (some ⟨g, 0, none⟩) (n + 1) cap) (n + 1) (us ++ [.slice A m c]) → (w.alloc (.cells #[.slice A m c] 39)).grownBy w' v.ownBlock → (v.ownBlock = some g ∨ g = (w.alloc (.cells #[.slice A m c] 39)).heap.size) → g < w'.heap.size → wpList Tryd.prog ops Q rest (a.put o.dst (.slice (some ⟨g, 0, none⟩) (n + 1) cap)) w') :
    wpList Tryd.prog ops Q (o :: rest) a (w.alloc (.cells #[.slice A m c] 39)) := by
  subst hln
  obtain ⟨i0, hi0, iz0, iz1, iz2⟩ := info_parts info_sl64
  have hb := World.news_of_block (Box.new w #[.slice A m c] 39)
  exact wpList_append_lies (w.alloc (.cells #[.slice A m c] 39)) hgd sx x _ ho base 39 i0 _ 1 24 (by kernel_rfl) hi0 iz0 iz1 iz2 rfl (by omega) v us.length us hs (World.ownsRow.alloc hown _) ⟨w.heap.size, 0, none⟩ 1 1 [.slice A m c] hx rfl
    hb (by simp [Value.oneCell']) (by omega) (by simp only [maxLen]; omega) (by omega) (by simp only [World.size_alloc]; omega) _ rfl h
theorem hv5' {w w4 : World} {v : Value} {g cap n : Nat} (hb4 : Below w.heap.size w w4) (hg : v.ownBlock = some g ∨ g = w4.heap.size) : ∀ b, (Value.slice (some ⟨g, 0, none⟩) n cap).ownBlock = some b → v.ownBlock = some b ∨ w.heap.size ≤ b := fun b e => by
  simp [Value.ownBlock] at e
  subst e
  rcases hg with h | h
  · exact .inl h
  · have := hb4.size
    exact .inr (by omega)
theorem bel7 {w0 w w4 w5 : World} {base : Nat} {v : Value} {us : List Value} {τ : List (List Nat)} (h0 : Below w0.heap.size w0 w) (h : AW w base v us τ) (hb4 : Below w.heap.size w w4) (hgr : w4.grownBy w5 v.ownBlock) (hb : w0.heap.size ≤ base := by exact Nat.le_refl _) : Below w0.heap.size w0 w5 :=
  ((h0.trans (hb4.mono h0.size)).grown hgr (by have := h0.size; have := hb4.size; omega) (fun k hk => by have := (h.lt k hk).1; omega))
def askL11 (f : FunV) (k : Nat) : List (List Nat) := (List.range k).map fun b => thrS (codeOf f b) []
theorem askL11_succ {f : FunV} {k : Nat} {l : List InsV} (h : f.blocks[k]? = some l) : askL11 f (k + 1) = askL11 f k ++ [thrS l []] := by
  unfold askL11
  rw [List.range_succ, List.map_append]
  simp [codeOf, h]
set_option maxHeartbeats 2000000 in
set_option maxRecDepth 100000 in
theorem asks_any (vk vb vs : Value) (f : FunV) (w : World) (B : Nat) (hB : B ≤ w.heap.size) (hi : FunI w (· < B) vk vb vs f) (hT : TabP w) (hls : f.blocks.length ≤ 40) (hbl : ∀ l ∈ f.blocks, l.length ≤ 40) (hfew : ∀ l ∈ f.blocks, ∀ x ∈ l, x.args.length ≤ 1099511627000) :
    Calls Tryd.prog 83 #[.agg #[vk, vb, .int .i64 f.params, .int .i64 f.result, vs]] w fun e w' => ∃ v us, e = .returned v ∧ AW w' w.heap.size v us (askL11 f f.blocks.length) ∧ Below w.heap.size w w' := by
  have HTH := hide (fun (b : Nat) (l : List InsV) (hl : f.blocks[b]? = some l) (A : Option Addr) (len cap : Nat) (W : World) (hW : Below w.heap.size w W) (hv : InssV W (· < W.heap.size) (.slice A len cap) l) (hlen : l.length = len) => through_any A len cap l (.slice none 0 0) [] W hv hlen (by have := hbl l (List.mem_of_getElem? hl); omega) (SetV.nil0 W) ⟨by simp, fun x hx => by cases hx⟩ (hT.below hW hT.1) (few_code hfew hl))
  have HBL := hide (fun (W : World) (hW : Below w.heap.size w W) => hi.2.2.1.keep (up hW hB) (fun _ h => h))
  have HBB := hide hB
  obtain ⟨Ak, ck, rfl, hck, hmk⟩ := hi.1.open'
  obtain ⟨Ab, cb, rfl, hcb, hmb⟩ := hi.2.1.open'
  obtain ⟨As, cs, rfl, hcs, hms⟩ := hi.2.2.1.open'
  obtain ⟨i0, hi0, iz0, iz1, iz2⟩ := info_parts info_sl64
  have HI0 := hide hi0
  obtain ⟨ls, hls2⟩ : ∃ ls, f.blocks.length = ls := ⟨_, rfl⟩
  have HLS := hide hls2
  have HAS := hide (fun k l (h : f.blocks[k]? = some l) => askL11_succ (f := f) h)
  obtain ⟨AF, hAF⟩ : ∃ AF : Nat → List (List Nat), (fun k => askL11 f k) = AF := ⟨_, rfl⟩
  have hAF2 : ∀ k, askL11 f k = AF k := fun k => by rw [← hAF]
  have HAL := hide (show ∀ k, (AF k).length = k from fun k => by rw [← hAF2]; simp [askL11])
  have HA0 := hide (show AF 0 = [] by rw [← hAF2]; rfl)
  simp only [hAF2] at HAS ⊢
  rw [hls2] at HBL hcs hls ⊢
  clear hi hT hB hbl hfew hls2 hi0 hAF hAF2
  generalize f.kinds.length = lk, f.base.length = lb, f.params = fp, f.result = fr at *
  go_enter Tryd.func83, Tryd.ntmps83
  go_upto_region 1 with (fail)
  obtain ⟨w1, hw1⟩ : ∃ w1, w1 = w.alloc (.cells #[.slice Ak lk ck, .slice Ab lb cb, .int .i64 fp, .int .i64 fr, .slice As ls cs] 34) := ⟨_, rfl⟩
  obtain ⟨h5, hh5⟩ : ∃ h5, w.heap.size = h5 := ⟨_, rfl⟩
  have HX0 := hide (show Box w1 (h5) #[.slice Ak lk ck, .slice Ab lb cb, .int .i64 fp, .int .i64 fr, .slice As ls cs] 34 by rw [hw1, ← hh5]; have t := Box.new w #[.slice Ak lk ck, .slice Ab lb cb, .int .i64 fp, .int .i64 fr, .slice As ls cs] 34; (try simp only [World.size_alloc] at t); exact t)
  have HB1 := hide (show Below w.heap.size w w1 by rw [hw1]; exact ((Below.refl _ _).alloc (Nat.le_refl _) _))
  have w1s := HB1.out.size
  have w1z := hide (show w1.heap.size = h5 + 1 by rw [hw1, ← hh5]; simp only [World.size_alloc])
  have HK0 := hide (fun (W : World) (hW : Below w1.heap.size w1 W) => (And.intro ((HX0.out.below hW).cell 0 (v := .slice Ak lk ck) rfl).1 (And.intro ((HX0.out.below hW).cell 1 (v := .slice Ab lb cb) rfl).1 (And.intro ((HX0.out.below hW).cell 2 (v := .int .i64 fp) rfl).1 (And.intro ((HX0.out.below hW).cell 3 (v := .int .i64 fr) rfl).1 ((HX0.out.below hW).cell 4 (v := .slice As ls cs) rfl).1)))))
  have lHX0 := HX0.out.lt
  have h5g : w.heap.size ≤ h5 := by omega
  rw [← hw1, hh5]
  clear hw1 hh5
  obtain ⟨c0, c1, c2, c3, c4⟩ := HK0.out w1 (Below.refl _ _)
  go_wp2
  clear c0 c1 c2 c3 c4
  go_loopw [3, 9] (fun v i wr => ∃ (k : Nat) (us : List Value), k ≤ ls ∧ i = .int .i64 k ∧ Hid (AW wr w1.heap.size v us (AF k)) ∧ Below w1.heap.size w1 wr) (fun _ i _ => ls - (intOf i).toNat)
  case atStart => exact ⟨0, [], Nat.zero_le _, rfl, by rw [HA0.out]; exact hide (AW.nil _ _), Below.refl _ _⟩
  case round =>
    obtain ⟨k, us, hk, rfl, HAW, hb⟩ := hrel
    obtain ⟨wo, rfl⟩ : ∃ wo, wo = wr := ⟨_, rfl⟩
    have HC := hide hb
    have HW := hide (HB1.out.trans (hb.mono HB1.out.size))
    have lwo := hb.size
    clear hb
    obtain ⟨Av, cv, hv, hnv, hcv⟩ := rowSl HAW.out.own
    obtain ⟨nv, hnv2⟩ : ∃ n, us.length = n := ⟨_, rfl⟩
    rw [hnv2] at hv hnv
    subst hv
    have HNV := hide hnv2
    have hnk : nv ≤ 40 := by have h1 := HAW.out.len; have h2 := HAL.out k; omega
    clear hnv2
    by_cases hlt : k < ls
    case neg =>
      obtain rfl : ls = k := by omega
      have hnl : ¬ ((ls : Int) < (ls : Int)) := by omega
      go_wp2
      go_ret
      first | exact ⟨_, us, rfl, HAW.out.lower HB1.out.size, HW.out⟩ | exact ⟨_, rfl, ⟨us, HAW.out.lower HB1.out.size⟩, HW.out⟩
    obtain ⟨l, hl⟩ : ∃ l, f.blocks[k]? = some l := ⟨_, List.getElem?_eq_getElem (by have := HLS.out; omega)⟩
    have HAK := hide (HAS.out k l hl)
    have HTK := hide (HTH.out k l hl)
    obtain ⟨bb, ob, Al, cl, hAs, hbb, d0, hli⟩ := (HBL.out wo HW.out).get hl
    subst hAs
    have lbB : B ≤ wo.heap.size := by have := HBB.out; have := HW.out.size; omega
    have hbs : bb < wo.heap.size := by omega
    have HLI := hide (fun (W : World) (hW : Below wo.heap.size wo W) => hli.keep (S := (· < B)) (S' := (· < W.heap.size)) (up hW lbB) (fun _ h => by have := hW.size; omega))
    obtain ⟨ll, hll⟩ : ∃ ll, l.length = ll := ⟨_, rfl⟩
    have HLL := hide hll
    rw [hll] at HLI d0
    clear hli hll hl
    obtain ⟨s, hs⟩ : ∃ s, thrS l [] = s := ⟨_, rfl⟩
    have HS := hide hs
    rw [hs] at HAK
    have hki : (0 : Int) ≤ (k : Int) := by omega
    have hkl : (k : Int) < (ls : Int) := by omega
    clear hs
    go_upto_region 5 with (fail)
    obtain ⟨w5, hw5⟩ : ∃ w5, w5 = wo.alloc (.cells #[.slice Al ll cl] 31) := ⟨_, rfl⟩
    obtain ⟨h6, hh6⟩ : ∃ h6, wo.heap.size = h6 := ⟨_, rfl⟩
    have HFX0 := hide (show Box w5 (h6) #[.slice Al ll cl] 31 by rw [hw5, ← hh6]; have t := Box.new wo #[.slice Al ll cl] 31; (try simp only [World.size_alloc] at t); exact t)
    have HB5 := hide (show Below wo.heap.size wo w5 by rw [hw5]; exact ((Below.refl _ _).alloc (Nat.le_refl _) _))
    have w5s := HB5.out.size
    have w5z := hide (show w5.heap.size = h6 + 1 by rw [hw5, ← hh6]; simp only [World.size_alloc])
    have HFK0 := hide (fun (W : World) (hW : Below w5.heap.size w5 W) => ((HFX0.out.below hW).cell 0 (v := .slice Al ll cl) rfl).1)
    have lHFX0 := HFX0.out.lt
    have h6g : wo.heap.size ≤ h6 := by omega
    rw [← hw5, hh6]
    clear hw5 hh6
    have e0 := HFK0.out w5 (Below.refl _ _)
    clear d0
    have HT5 := hide (HTK.out Al ll cl w5 (HW.out.trans (HB5.out.mono HW.out.size)) (HLI.out w5 HB5.out) HLL.out)
    rw [HS.out] at HT5
    go_wp2_with (first
      | (at_builtin; refine wpList_append_set (by rfl) _ _ (by rfl) w1.heap.size (.slice Av nv cv) us nv HNV.out (by rfl) HAW6.out.own A6 s.length c6 (by rfl) (by omega) (by have := HC6.out.size; omega) ?_; intro g7 cap7 w7 ho7 hg7 hgg7 hlt7; have HAW7 := hide (HAW6.out.app (v5 := .slice (some ⟨g7, 0, none⟩) (nv + 1) cap7) HM6.out (alloc1 w6 _) hg7 (by rw [HNV.out]; exact ho7) (hv5' (alloc1 w6 _) hgg7)); have HB7 := hide (bel7 HC6.out HAW6.out (alloc1 w6 _) hg7); clear ho7 hg7 hgg7)
      | (go_at_call 69; refine HT5.out.mono ?_; rintro e w6 ⟨A6, c6, rfl, hf6, hv6, hb6⟩; have HC6 := hide (HC.out.trans ((HB5.out.trans (hb6.mono HB5.out.size)).mono HC.out.size)); have HW6 := hide (HB1.out.trans (HC6.out.mono HB1.out.size)); have HAW6 := hide (HAW.out.below (HB5.out.trans (hb6.mono HB5.out.size))); have HM6 := hide (frS (w' := w6) (M := fun b => (Value.slice Av nv cv).ownBlock = some b ∨ b < w1.heap.size) hf6 hv6 (fun b e => by have := HB5.out.size; have := HC.out.size; rcases e with e | e; (· have := (HAW.out.lt b e).2; omega); (· omega))); clear hb6 hf6 hv6))
    go_roundw
    case rel => exact ⟨k + 1, us ++ [.slice A6 s.length c6], by omega, by go_num, by rw [HAK.out]; exact HAW7, HB7.out⟩
    case measure => simp [intOf]; omega
end Go.Proofs.YteoopilmdlhkhaaDoor
