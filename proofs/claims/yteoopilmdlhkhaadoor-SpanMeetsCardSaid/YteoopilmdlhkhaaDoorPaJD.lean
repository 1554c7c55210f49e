/- Layer 11, the program: live.sets. Condition: the table of parts reads as listed. -/
import Derived.Test.YteoopilmdlhkhaaDoorPaJC
set_option linter.unusedSimpArgs false
set_option linter.unusedVariables false
namespace Go.Proofs.YteoopilmdlhkhaaDoor
open Go.RowKit

/-- What a list of instructions sets. -/
def setsL11 (l : List InsV) : List Int := (l.filter fun x => hasB4 x.op 68).map (·.d)
theorem setsL11_mem {l : List InsV} {v : Nat} : (v : Int) ∈ setsL11 l ↔ setB l v := by
  unfold setsL11 setB
  simp only [List.mem_map, List.mem_filter]
  constructor
  · rintro ⟨x, ⟨h1, h2⟩, h3⟩
    exact ⟨x, h1, h2, h3⟩
  · rintro ⟨x, h1, h2, h3⟩
    exact ⟨x, ⟨h1, h2⟩, h3⟩
theorem setsL11_take {l : List InsV} {k : Nat} {x : InsV} (h : l[k]? = some x) : setsL11 (l.take (k + 1)) = setsL11 (l.take k) ++ (if hasB4 x.op 68 = true then [x.d] else []) := by
  unfold setsL11
  rw [List.take_add_one, h, Option.toList_some, List.filter_append, List.map_append]
  congr 1
  cases hb : hasB4 x.op 68 <;> simp [hb]
theorem setsL11_len (l : List InsV) : (setsL11 l).length ≤ l.length := by
  unfold setsL11
  rw [List.length_map]
  exact List.length_filter_le _ _
def setL11 (f : FunV) (k : Nat) : List (List Nat) := (List.range k).map fun b => ofL (setsL11 (codeOf f b))
theorem setL11_succ {f : FunV} {k : Nat} {l : List InsV} (h : f.blocks[k]? = some l) : setL11 f (k + 1) = setL11 f k ++ [ofL (setsL11 l)] := by
  unfold setL11
  rw [List.range_succ, List.map_append]
  simp [codeOf, h]
theorem setsL11_R {w : World} {B : Nat} {va : Value} {l : List InsV} (h : InssV w (· < B) va l) : ∀ z ∈ setsL11 l, i64R z := fun z hz => by
  obtain ⟨A, c, rfl, -, -⟩ := h.open'
  obtain ⟨x, hx, rfl⟩ := List.mem_map.1 hz
  obtain ⟨j, hj⟩ := List.getElem?_of_mem (List.mem_filter.1 hx).1
  obtain ⟨b, o, A1, c1, -, -, -, hi⟩ := h.get hj
  exact hi.2.2.1
set_option maxHeartbeats 4000000 in
set_option maxRecDepth 100000 in
theorem lsets_any (vk vb vs : Value) (f : FunV) (w : World) (B : Nat) (hB : B ≤ w.heap.size) (hi : FunI w (· < B) vk vb vs f) (hT : TabP w) (hls : f.blocks.length ≤ 40) (hbl : ∀ l ∈ f.blocks, l.length ≤ 40) :
    Calls Tryd.prog 84 #[.agg #[vk, vb, .int .i64 f.params, .int .i64 f.result, vs]] w fun e w' => ∃ v us, e = .returned v ∧ AW w' w.heap.size v us (setL11 f f.blocks.length) ∧ Below w.heap.size w w' := by
  have HST := hide (fun (x : InsV) (A : Option Addr) (n c : Nat) (W : World) (hW : Below w.heap.size w W) (hop : i64R x.op) => sets_any x A n c W (hT.below hW hT.1) hop)
  have HBL := hide (fun (W : World) (hW : Below w.heap.size w W) => hi.2.2.1.keep (up hW hB) (fun _ h => h))
  have HBB := hide hB
  have HB40 := hide (fun (k : Nat) (l : List InsV) (h : f.blocks[k]? = some l) => hbl l (List.mem_of_getElem? h))
  obtain ⟨Ak, ck, rfl, hck, hmk⟩ := hi.1.open'
  obtain ⟨Ab, cb, rfl, hcb, hmb⟩ := hi.2.1.open'
  obtain ⟨As, cs, rfl, hcs, hms⟩ := hi.2.2.1.open'
  obtain ⟨i0, hi0, iz0, iz1, iz2⟩ := info_parts info_i64
  have HI0 := hide hi0
  obtain ⟨ls, hls2⟩ : ∃ ls, f.blocks.length = ls := ⟨_, rfl⟩
  have HLS := hide hls2
  have HAS := hide (fun k l (h : f.blocks[k]? = some l) => setL11_succ (f := f) h)
  obtain ⟨AF, hAF⟩ : ∃ AF : Nat → List (List Nat), (fun k => setL11 f k) = AF := ⟨_, rfl⟩
  have hAF2 : ∀ k, setL11 f k = AF k := fun k => by rw [← hAF]
  have HAL := hide (show ∀ k, (AF k).length = k from fun k => by rw [← hAF2]; simp [setL11])
  have HA0 := hide (show AF 0 = [] by rw [← hAF2]; rfl)
  simp only [hAF2] at HAS ⊢
  rw [hls2] at HBL hcs hls ⊢
  clear hi hT hB hbl hls2 hi0 hAF hAF2
  generalize f.kinds.length = lk, f.base.length = lb, f.params = fp, f.result = fr at *
  go_enter Tryd.func84, Tryd.ntmps84
  go_upto_region 1 with (fail)
  obtain ⟨w1, hw1⟩ : ∃ w1, w1 = w.alloc (.cells #[.slice Ak lk ck, .slice Ab lb cb, .int .i64 fp, .int .i64 fr, .slice As ls cs] 34) := ⟨_, rfl⟩
  obtain ⟨h5, hh5⟩ : ∃ h5, w.heap.size = h5 := ⟨_, rfl⟩
  have HX0 := hide (show Box w1 (h5) #[.slice Ak lk ck, .slice Ab lb cb, .int .i64 fp, .int .i64 fr, .slice As ls cs] 34 by rw [hw1, ← hh5]; have t := Box.new w #[.slice Ak lk ck, .slice Ab lb cb, .int .i64 fp, .int .i64 fr, .slice As ls cs] 34; (try simp only [World.size_alloc] at t); exact t)
  have HB1 := hide (show Below w.heap.size w w1 by rw [hw1]; exact ((Below.refl _ _).alloc (Nat.le_refl _) _))
  have w1s := HB1.out.size
  have w1z := hide (show w1.heap.size = h5 + 1 by rw [hw1, ← hh5]; simp only [World.size_alloc])
  have HK0 := hide (fun (W : World) (hW : Below w1.heap.size w1 W) => (And.intro ((HX0.out.below hW).cell 0 (v := .slice Ak lk ck) rfl).1 (And.intro ((HX0.out.below hW).cell 1 (v := .slice Ab lb cb) rfl).1 (And.intro ((HX0.out.below hW).cell 2 (v := .int .i64 fp) rfl).1 (And.intro ((HX0.out.below hW).cell 3 (v := .int .i64 fr) rfl).1 ((HX0.out.below hW).cell 4 (v := .slice As ls cs) rfl).1)))))
  have lHX0 := HX0.out.lt
  have h5g : w.heap.size ≤ h5 := by omega
  rw [← hw1, hh5]
  clear hw1 hh5
  obtain ⟨c0, c1, c2, c3, c4⟩ := HK0.out w1 (Below.refl _ _)
  go_wp2
  clear c0 c1 c2 c3 c4
  go_loopw [3, 14] (fun v i wr => ∃ (k : Nat) (us : List Value), k ≤ ls ∧ i = .int .i64 k ∧ Hid (AW wr w1.heap.size v us (AF k)) ∧ Below w1.heap.size w1 wr) (fun _ i _ => ls - (intOf i).toNat)
  case atStart => exact ⟨0, [], Nat.zero_le _, rfl, by rw [HA0.out]; exact hide (AW.nil _ _), Below.refl _ _⟩
  case round =>
    obtain ⟨k, us, hk, rfl, HAW, hb⟩ := hrel
    obtain ⟨wo, rfl⟩ : ∃ wo, wo = wr := ⟨_, rfl⟩
    have HC := hide hb
    have HW := hide (HB1.out.trans (hb.mono HB1.out.size))
    have lwo := hb.size
    clear hb
    obtain ⟨Av, cv, hv, hnv, hcv⟩ := rowSl HAW.out.own
    obtain ⟨nv, hnv2⟩ : ∃ n, us.length = n := ⟨_, rfl⟩
    rw [hnv2] at hv hnv
    subst hv
    have HNV := hide hnv2
    have hnk : nv ≤ 40 := by have h1 := HAW.out.len; have h2 := HAL.out k; omega
    clear hnv2
    by_cases hlt : k < ls
    case neg =>
      obtain rfl : ls = k := by omega
      have hnl : ¬ ((ls : Int) < (ls : Int)) := by omega
      go_wp2
      go_ret
      first | exact ⟨_, us, rfl, HAW.out.lower HB1.out.size, HW.out⟩ | exact ⟨_, rfl, ⟨us, HAW.out.lower HB1.out.size⟩, HW.out⟩
    obtain ⟨l, hl⟩ : ∃ l, f.blocks[k]? = some l := ⟨_, List.getElem?_eq_getElem (by have := HLS.out; omega)⟩
    have HAK := hide (HAS.out k l hl)
    have hl40 := HB40.out k l hl
    obtain ⟨bb, ob, Al, cl, hAs, hbb, d0, hli⟩ := (HBL.out wo HW.out).get hl
    subst hAs
    have lbB : B ≤ wo.heap.size := by have := HBB.out; have := HW.out.size; omega
    have hbs : bb < wo.heap.size := by omega
    have HLI := hide (fun (W : World) (hW : Below wo.heap.size wo W) => hli.keep (S := (· < B)) (S' := (· < B)) (up hW lbB) (fun _ h => h))
    have HZR := hide (setsL11_R hli)
    have HSN := hide (setsL11_len l)
    obtain ⟨ll, hll⟩ : ∃ ll, l.length = ll := ⟨_, rfl⟩
    have HLL := hide hll
    rw [hll] at HLI d0 hl40
    clear hli hll hl
    have HTS := hide (fun k x (h : l[k]? = some x) => setsL11_take h)
    have HT0 := hide (show setsL11 (l.take 0) = [] from rfl)
    have HTN := hide (show setsL11 (l.take ll) = setsL11 l by rw [List.take_of_length_le (by have := HLL.out; omega)])
    have HTL := hide (fun j => Nat.le_trans (setsL11_len (l.take j)) (by rw [List.length_take]; exact Nat.min_le_left j l.length))
    obtain ⟨TF, hTF⟩ : ∃ TF : Nat → List Int, (fun j => setsL11 (l.take j)) = TF := ⟨_, rfl⟩
    have hTF2 : ∀ j, setsL11 (l.take j) = TF j := fun j => by rw [← hTF]
    simp only [hTF2] at HTS HT0 HTN HTL
    clear hTF hTF2
    have hki : (0 : Int) ≤ (k : Int) := by omega
    have hkl : (k : Int) < (ls : Int) := by omega
    go_upto_region 5 with (fail)
    obtain ⟨w5, hw5⟩ : ∃ w5, w5 = wo.alloc (.cells #[.slice Al ll cl] 31) := ⟨_, rfl⟩
    obtain ⟨h6, hh6⟩ : ∃ h6, wo.heap.size = h6 := ⟨_, rfl⟩
    have HFX0 := hide (show Box w5 (h6) #[.slice Al ll cl] 31 by rw [hw5, ← hh6]; have t := Box.new wo #[.slice Al ll cl] 31; (try simp only [World.size_alloc] at t); exact t)
    have HB5 := hide (show Below wo.heap.size wo w5 by rw [hw5]; exact ((Below.refl _ _).alloc (Nat.le_refl _) _))
    have w5s := HB5.out.size
    have w5z := hide (show w5.heap.size = h6 + 1 by rw [hw5, ← hh6]; simp only [World.size_alloc])
    have HFK0 := hide (fun (W : World) (hW : Below w5.heap.size w5 W) => ((HFX0.out.below hW).cell 0 (v := .slice Al ll cl) rfl).1)
    have lHFX0 := HFX0.out.lt
    have h6g : wo.heap.size ≤ h6 := by omega
    rw [← hw5, hh6]
    clear hw5 hh6
    have e0 := HFK0.out w5 (Below.refl _ _)
    clear d0
    have HWU := hide (fun (W : World) (hW : Below w5.heap.size w5 W) => HW.out.trans ((HB5.out.trans (hW.mono HB5.out.size)).mono HW.out.size))
    have HCU := hide (fun (W : World) (hW : Below w5.heap.size w5 W) => HC.out.trans ((HB5.out.trans (hW.mono HB5.out.size)).mono HC.out.size))
    go_wp2
    clear e0
    go_loopw [6, 21] (fun v6 i wr => ∃ j : Nat, j ≤ ll ∧ i = .int .i64 j ∧ Hid (Ow wr w5.heap.size 3 .i64 v6 (TF j)) ∧ Below w5.heap.size w5 wr) (fun _ i _ => ll - (intOf i).toNat)
    case atStart => exact ⟨0, Nat.zero_le _, rfl, by rw [HT0.out]; exact hide (Ow.nil _ _ _ _), Below.refl _ _⟩
    case round =>
      obtain ⟨j, hj, rfl, HOW, hb⟩ := hrel
      obtain ⟨wi, rfl⟩ : ∃ wi, wi = wr := ⟨_, rfl⟩
      have HD := hide hb
      have lwi := hb.size
      clear hb
      have hTl := HTL.out j
      obtain ⟨A6, c6, hv6, hn6, hm6, -⟩ := HOW.out.sl
      obtain ⟨n6, hn62⟩ : ∃ n, (TF j).length = n := ⟨_, rfl⟩
      have HN6 := hide hn62
      rw [hn62] at hv6 hn6 hTl
      subst hv6
      clear hn62
      by_cases hltj : j < ll
      case neg =>
        obtain rfl : ll = j := by omega
        have hnl : ¬ ((ll : Int) < (ll : Int)) := by omega
        have HOF := hide (of_anyN A6 n6 c6 (TF ll) wi (by have t := HOW.out.sl; obtain ⟨A', c', e, -, -, h⟩ := t; rw [HN6.out] at e; cases e; exact h) HN6.out (by omega) (by rw [HTN.out]; exact HZR.out))
        obtain ⟨s, hs⟩ : ∃ s, ofL (TF ll) = s := ⟨_, rfl⟩
        rw [hs] at HOF
        rw [← HTN.out, hs] at HAK
        clear hs
        go_wp2_with (first
          | (at_builtin; refine wpList_append_set (by rfl) _ _ (by rfl) w1.heap.size (.slice Av nv cv) us nv HNV.out (by rfl) HAW8.out.own A8 s.length c8 (by rfl) (by omega) (by have := HC8.out.size; omega) ?_; intro g7 cap7 w7 ho7 hg7 hgg7 hlt7; have HAW7 := hide (HAW8.out.app (v5 := .slice (some ⟨g7, 0, none⟩) (nv + 1) cap7) HM8.out (alloc1 w8 _) hg7 (by rw [HNV.out]; exact ho7) (hv5' (alloc1 w8 _) hgg7)); have HB7 := hide (bel7 HC8.out HAW8.out (alloc1 w8 _) hg7); clear ho7 hg7 hgg7)
          | (go_at_call 17; refine HOF.out.mono ?_; rintro e w8 ⟨A8, c8, rfl, hl8, hm8, hs8, hb8, hf8⟩; have hd8 := HD.out.trans (hb8.mono HD.out.size); have HC8 := hide (HCU.out w8 hd8); have HAW8 := hide (HAW.out.below (HB5.out.trans (hd8.mono HB5.out.size))); have HM8 := hide (show SetM w8 (fun b => (Value.slice Av nv cv).ownBlock = some b ∨ b < w1.heap.size) (.slice A8 s.length c8) s from ⟨A8, c8, rfl, hl8, hm8, hs8, fun b o e _ hm => by have := hf8 b o e; have := HB5.out.size; have := HC.out.size; have := HD.out.size; rcases hm with hm | hm; (· have := (HAW.out.lt b hm).2; omega); (· omega)⟩); clear hb8 hf8 hs8 hd8))
        go_roundw
        case rel => exact ⟨k + 1, us ++ [.slice A8 s.length c8], by omega, by go_num, by rw [HAK.out]; exact HAW7, HB7.out⟩
        case measure => simp [intOf]; omega
      obtain ⟨x, hx⟩ : ∃ x, l[j]? = some x := ⟨_, List.getElem?_eq_getElem (by have := HLL.out; omega)⟩
      have HTX := hide (HTS.out j x hx)
      obtain ⟨bx, ox, Ay, cy, hAl, hbx, ⟨z0, z1, z2, z3, z4, z5, z6⟩, hxi⟩ := (HLI.out wi (HB5.out.trans (HD.out.mono HB5.out.size))).get hx
      subst hAl
      have lbx : bx < wi.heap.size := by have := HB5.out.size; omega
      have hop := hxi.2.1
      have hdR := hxi.2.2.1
      have HSX := hide (fun (W : World) (hW : Below w.heap.size w W) => HST.out x Ay x.args.length cy W hW hop)
      have HDR := hide hdR
      clear hxi hx hop hdR
      generalize x.args.length = ly, x.op = yo, x.d = yd, x.a = ya, x.b = yb, x.n = yn, x.m = ym at *
      have hji : (0 : Int) ≤ (j : Int) := by omega
      have hjl : (j : Int) < (ll : Int) := by omega
      go_upto_region 9 with (fail)
      obtain ⟨w9, hw9⟩ : ∃ w9, w9 = wi.alloc (.cells #[.int .i64 yo, .int .i64 yd, .int .i64 ya, .int .i64 yb, .int .i64 yn, .int .i64 ym, .slice Ay ly cy] 28) := ⟨_, rfl⟩
      obtain ⟨h9, hh9⟩ : ∃ h9, wi.heap.size = h9 := ⟨_, rfl⟩
      have HGX0 := hide (show Box w9 (h9) #[.int .i64 yo, .int .i64 yd, .int .i64 ya, .int .i64 yb, .int .i64 yn, .int .i64 ym, .slice Ay ly cy] 28 by rw [hw9, ← hh9]; have t := Box.new wi #[.int .i64 yo, .int .i64 yd, .int .i64 ya, .int .i64 yb, .int .i64 yn, .int .i64 ym, .slice Ay ly cy] 28; (try simp only [World.size_alloc] at t); exact t)
      have HB9 := hide (show Below wi.heap.size wi w9 by rw [hw9]; exact ((Below.refl _ _).alloc (Nat.le_refl _) _))
      have w9s := HB9.out.size
      have w9z := hide (show w9.heap.size = h9 + 1 by rw [hw9, ← hh9]; simp only [World.size_alloc])
      have HGK0 := hide (fun (W : World) (hW : Below w9.heap.size w9 W) => (And.intro ((HGX0.out.below hW).cell 0 (v := .int .i64 yo) rfl).1 (And.intro ((HGX0.out.below hW).cell 1 (v := .int .i64 yd) rfl).1 (And.intro ((HGX0.out.below hW).cell 2 (v := .int .i64 ya) rfl).1 (And.intro ((HGX0.out.below hW).cell 3 (v := .int .i64 yb) rfl).1 (And.intro ((HGX0.out.below hW).cell 4 (v := .int .i64 yn) rfl).1 (And.intro ((HGX0.out.below hW).cell 5 (v := .int .i64 ym) rfl).1 ((HGX0.out.below hW).cell 6 (v := .slice Ay ly cy) rfl).1)))))))
      have lHGX0 := HGX0.out.lt
      have h9g : wi.heap.size ≤ h9 := by omega
      rw [← hw9, hh9]
      clear hw9 hh9
      obtain ⟨a0, a1, a2, a3, a4, a5, a6⟩ := HGK0.out w9 (Below.refl _ _)
      clear z0 z1 z2 z3 z4 z5 z6
      have HD9 := hide (HD.out.trans (HB9.out.mono HD.out.size))
      have HSX9 := hide (HSX.out w9 (HWU.out w9 HD9.out))
      have HOW9 := hide (HOW.out.below HB9.out)
      obtain ⟨b68, hb68⟩ : ∃ b, hasB4 yo 68 = b := ⟨_, rfl⟩
      rw [hb68] at HSX9 HTX
      clear hb68 HSX
      cases b68
      case false =>
        simp only [Bool.false_eq_true, if_false, List.append_nil] at HSX9 HTX
        go_wp2_with (go_at_call 33; refine HSX9.out.mono ?_; rintro e w10 ⟨rfl, hb10⟩; have HD10 := hide (HD9.out.trans (hb10.mono HD9.out.size)); have HOW10 := hide (HOW9.out.below hb10); clear hb10)
        go_roundw
        case rel => exact ⟨j + 1, by omega, by go_num, by rw [HTX.out]; first | exact HOW10 | (rw [HN6.out]; exact HOW10), HD10.out⟩
        case measure => simp [intOf]; omega
      case true =>
        simp only [if_true] at HSX9 HTX
        go_wp2_with (first
          | (at_builtin; refine wpList_append_one w10 (by rfl) _ _ _ (by rfl) w5.heap.size 3 .i64 i0 _ 8 Tryd.underlying26 HI0.out iz0 iz1 iz2 rfl (by omega) (.slice A6 n6 c6) (TF j) (by rfl) HOW10.out yd (by rfl) (by have := HN6.out; omega) (by have := HD10.out.size; omega) ?_; intro v11 w11 ho11 hb11; have HOW11 := hide ho11; have HD11 := hide (HD10.out.trans hb11); clear ho11 hb11)
          | (go_at_call 33; refine HSX9.out.mono ?_; rintro e w10 ⟨rfl, hb10⟩; have HD10 := hide (HD9.out.trans (hb10.mono HD9.out.size)); have HOW10 := hide (HOW9.out.below hb10); clear hb10))
        go_roundw
        case rel => exact ⟨j + 1, by omega, by go_num, by rw [HTX.out]; exact HOW11, HD11.out⟩
        case measure => simp [intOf]; omega
end Go.Proofs.YteoopilmdlhkhaaDoor
