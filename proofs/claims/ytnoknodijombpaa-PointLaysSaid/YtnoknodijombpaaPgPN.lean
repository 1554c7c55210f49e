/- Layer 14, the program: polled: blocks alike, some with a poll ahead of their last instruction. Condition: no more than 1000 blocks of 1 to 1000 instructions. -/
import Derived.Test.YtnoknodijombpaaPgPM
import Derived.Deep.RegionHeld3
set_option linter.unusedSimpArgs false
set_option linter.unusedVariables false
namespace Go.Proofs.Ytnoknodijombpaa
open Go.RowKit

def NG (w : World) (g b : Nat) : Prop := NF w b ∧ b ≠ g
/-- The blocks under way: the clone in block g. -/
structure PolB (w0 w : World) (g ls cc : Nat) (xs : List (List InsV)) (T : Nat → Bool) (k : Nat) (cl : List (List InsV × Value)) : Prop where
  own : OwC blkC 53 1 w w0.heap.size (.slice (some ⟨g, 0, none⟩) ls cc) cl
  map : cl.map (·.1) = layTo xs T k
  code : ∀ p ∈ cl, InssV w (NG w g) p.2 p.1
  bel : Below w0.heap.size w0 w
section
variable {w0 w w' : World} {g ls cc k : Nat} {xs : List (List InsV)} {T : Nat → Bool} {cl : List (List InsV × Value)}
theorem inss_NG {v : Value} {x : List InsV} {g' : Nat} (h : InssV w (NG w g) v x) (hk : ∀ b, NG w g b → w'.heap[b]? = w.heap[b]?) : InssV w' (NG w' g) v x :=
  h.keep (fun b o hb => World.cell?_of_block (a := ⟨b, o, none⟩) (hk b hb)) (fun b hb => ⟨hb.1.keep (hk b hb), hb.2⟩)
theorem PolB.below (h : PolB w0 w g ls cc xs T k cl) (hb : Below w.heap.size w w') : PolB w0 w' g ls cc xs T k cl :=
  ⟨h.own.kept (fun b hb' => hb.block b (h.own.lt b hb').2), h.map, fun p hp => inss_NG (g' := g) (h.code p hp) (fun b hb' => hb.block b hb'.1.lt), h.bel.trans (hb.mono h.bel.size)⟩
theorem PolB.skip (h : PolB w0 w g ls cc xs T k cl) (hT : T k = false) : PolB w0 w g ls cc xs T (k + 1) cl := ⟨h.own, by rw [h.map, layTo_no hT], h.code, h.bel⟩
theorem PolB.put {l : List InsV} {u v : Value} (h : PolB w0 w g ls cc xs T k cl) (hT : T k = true) (hl : xs[k]? = some l) (hu : cl[k]? = some (l, u)) (hn : cl.length = ls) (hv : InssV w (NG w g) v (pollB l)) : PolB w0 (w.setCell ⟨g, k, none⟩ v) g ls cc xs T (k + 1) (cl.set k (pollB l, v)) := by
  have hk : ∀ b, NG w g b → (w.setCell ⟨g, k, none⟩ v).heap[b]? = w.heap[b]? := fun b hb => heap_setCell_other w ⟨g, k, none⟩ b v hb.2
  refine ⟨?_, by rw [List.map_set, h.map, layTo_yes hT hl], fun p hp => ?_, h.bel.setCell (h.own.lt g rfl).1 v⟩
  · have t := h.own.putE hn (fun _ => rfl) hu (i := 0) (by omega) (y' := (pollB l, v)) (u := v) rfl
    rw [Nat.mul_one, Nat.add_zero] at t
    exact t
  · rcases List.mem_or_eq_of_mem_set hp with hp | rfl
    · exact inss_NG (g' := g) (h.code p hp) hk
    · exact inss_NG (g' := g) hv hk
end
theorem BlksV.at14 {w : World} {S : Nat → Prop} {v : Value} {xs : List (List InsV)} (h : BlksV w S v xs) : ∃ A c, v = .slice A xs.length c := by
  obtain ⟨A, c, e, -, -⟩ := h.open'
  exact ⟨A, c, e⟩
def PolA (xs : List (List InsV)) (T : Nat → Bool) (w : World) (e : Ending) (w' : World) : Prop := ∃ v, e = .returned v ∧ BlksV w' (NF w') v (layTo xs T xs.length) ∧ Below w.heap.size w w'
/-- What Concat makes of a block. -/
theorem poll_inss {w W : World} {g : Nat} {v : Value} {l : List InsV} {q : List (InsV × Value)} {b8 : Nat} (hq : q.map (·.1) = l) (hqi : ∀ p ∈ q, InsI w (NG w g) p.2 p.1) (hW : ∀ b, NG w g b → W.heap[b]? = w.heap[b]?) (m : Nat) (hm : l.length = m + 1)
    (ho : OwC insC 50 7 W b8 v (q.take m ++ [(pollI, .slice none 0 0)] ++ q.drop m)) (hg : TB W 53 g) : InssV W (NG W g) v (pollB l) := by
  have e : (q.take m ++ [(pollI, Value.slice none 0 0)] ++ q.drop m).map (·.1) = pollB l := by
    unfold pollB
    rw [hm, Nat.add_sub_cancel, List.map_append, List.map_append, List.map_take, List.map_drop, hq]
    rfl
  rw [← e]
  refine codes_vec ho (fun p hp => ?_) (fun b hb => ⟨.inr (.inr (ho.row b hb)), fun e => ?_⟩)
  · have key : ∀ p ∈ q, InsI W (NG W g) p.2 p.1 := fun p hp => (hqi p hp).keep (fun b o hb => World.cell?_of_block (a := ⟨b, o, none⟩) (hW b hb)) (fun b hb => ⟨hb.1.keep (hW b hb), hb.2⟩)
    rcases List.mem_append.1 hp with hp | hp
    · rcases List.mem_append.1 hp with hp | hp
      · exact key p (List.mem_of_mem_take hp)
      · simp at hp
        subst hp
        exact ⟨Vec.nil _ _ _, by unfold InsR i64R pollI; simp⟩
    · exact key p (List.mem_of_mem_drop hp)
  · subst e
    exact absurd (hg.one (ho.row b hb)) (by decide)
theorem srcs14 {w W : World} {S : Nat → Prop} {ga oa m : Nat} {q : List (InsV × Value)} (hq : q.length = m + 1) (hqi : ∀ p ∈ q, InsI w S p.2 p.1) (hga : ga < W.heap.size) (hcell : ∀ (j : Nat) (u : Value), (q.flatMap insC)[j]? = some u → W.cell? ⟨ga, oa + j, none⟩ = some u) :
    SrcI W (some ⟨ga, oa, none⟩) m (q.take m) ∧ SrcI W (some ⟨ga, oa + m * 7, none⟩) 1 (q.drop m) := by
  have e : q.flatMap insC = (q.take m).flatMap insC ++ (q.drop m).flatMap insC := by rw [← List.flatMap_append, List.take_append_drop]
  have lt : (q.take m).length = m := by rw [List.length_take, hq]; omega
  have l7 : ((q.take m).flatMap insC).length = m * 7 := by rw [flat_len (c := insC) (sz := 7) (fun _ => rfl), lt]
  refine ⟨⟨lt, insC_one (fun p hp => hqi p (List.mem_of_mem_take hp)), fun _ => ⟨ga, oa, rfl, hga, fun j u hu => hcell j u ?_⟩⟩, ⟨by rw [List.length_drop, hq]; omega, insC_one (fun p hp => hqi p (List.mem_of_mem_drop hp)), fun _ => ⟨ga, oa + m * 7, rfl, hga, fun j u hu => ?_⟩⟩⟩
  · rw [e, List.getElem?_append_left (List.getElem?_eq_some_iff.1 hu).1]
    exact hu
  · rw [Nat.add_assoc]
    refine hcell (m * 7 + j) u ?_
    rw [e, List.getElem?_append_right (by omega), l7, Nat.add_sub_cancel_left]
    exact hu
theorem srcPoll14 {W : World} {h : Nat} (hb : Box W h #[.int .i64 24, .int .i64 0, .int .i64 0, .int .i64 0, .int .i64 0, .int .i64 0, .slice none 0 0] 50) : SrcI W (some ⟨h, 0, none⟩) 1 [(pollI, .slice none 0 0)] := by
  refine ⟨rfl, fun u hu => ?_, fun _ => ⟨h, 0, rfl, hb.lt, fun j u hu => ?_⟩⟩
  · simp only [List.flatMap_cons, List.flatMap_nil, List.append_nil, insC, List.mem_cons, List.mem_nil_iff, or_false] at hu
    rcases hu with rfl | rfl | rfl | rfl | rfl | rfl | rfl <;> rfl
  · rw [Nat.zero_add]
    exact (hb.cell j (by rw [← hu, List.getElem?_toArray]; rfl)).1
theorem pollcat14 {wo w6 : World} {g ga oa m cu : Nat} {l : List InsV} {q : List (InsV × Value)} (hq : q.map (·.1) = l) (hql : q.length = m + 1) (hqi : ∀ p ∈ q, InsI wo (NG wo g) p.2 p.1) (hga : ga < wo.heap.size) (hcell : ∀ (j : Nat) (u : Value), (q.flatMap insC)[j]? = some u → wo.cell? ⟨ga, oa + j, none⟩ = some u) (hb : Below wo.heap.size wo w6) (hm : m ≤ 1000) (hg : TB w6 53 g) :
    Calls Try.prog 59 #[.slice (some ⟨w6.heap.size + 1, 0, none⟩) 3 3] ((w6.alloc (.cells #[.int .i64 24, .int .i64 0, .int .i64 0, .int .i64 0, .int .i64 0, .int .i64 0, .slice none 0 0] 50)).alloc (.cells #[.slice (some ⟨ga, oa, none⟩) m cu, .slice (some ⟨w6.heap.size, 0, none⟩) 1 1, .slice (some ⟨ga, oa + m * 7, none⟩) 1 (cu - m)] 51)).drew fun e w' => ∃ v, e = .returned v ∧ InssV w' (NG w' g) v (pollB l) ∧ Below w6.heap.size w6 w' := by
  obtain ⟨W7, hW7⟩ : ∃ W7, W7 = w6.alloc (.cells #[.int .i64 24, .int .i64 0, .int .i64 0, .int .i64 0, .int .i64 0, .int .i64 0, .slice none 0 0] 50) := ⟨_, rfl⟩
  have b7 : Box W7 w6.heap.size #[.int .i64 24, .int .i64 0, .int .i64 0, .int .i64 0, .int .i64 0, .int .i64 0, .slice none 0 0] 50 := by rw [hW7]; exact Box.new _ _ _
  have z7 : W7.heap.size = w6.heap.size + 1 := by rw [hW7, World.size_alloc]
  have h7 : Below w6.heap.size w6 W7 := by rw [hW7]; exact alloc1 _ _
  rw [← hW7]
  obtain ⟨W8, hW8⟩ : ∃ W8, W8 = (W7.alloc (.cells #[.slice (some ⟨ga, oa, none⟩) m cu, .slice (some ⟨w6.heap.size, 0, none⟩) 1 1, .slice (some ⟨ga, oa + m * 7, none⟩) 1 (cu - m)] 51)).drew := ⟨_, rfl⟩
  have b8 : Box W8 (w6.heap.size + 1) #[.slice (some ⟨ga, oa, none⟩) m cu, .slice (some ⟨w6.heap.size, 0, none⟩) 1 1, .slice (some ⟨ga, oa + m * 7, none⟩) 1 (cu - m)] 51 := by
    have t := Box.new W7 #[.slice (some ⟨ga, oa, none⟩) m cu, .slice (some ⟨w6.heap.size, 0, none⟩) 1 1, .slice (some ⟨ga, oa + m * 7, none⟩) 1 (cu - m)] 51
    rw [z7] at t
    rw [hW8]
    exact t
  have h8 : Below W7.heap.size W7 W8 := by rw [hW8]; exact below_drewN (alloc1 W7 _) 1
  rw [← hW8]
  have h68 : Below w6.heap.size w6 W8 := h7.trans (h8.mono h7.size)
  have ho8 : Below wo.heap.size wo W8 := hb.trans (h68.mono hb.size)
  obtain ⟨s1, s3⟩ := srcs14 (W := W8) hql hqi (by have := ho8.size; omega) (fun j u hu => (ho8.cell (p := ⟨ga, oa + j, none⟩) hga).trans (hcell j u hu))
  have s2 := srcPoll14 (b7.below h8)
  refine (iconcat_any _ _ _ _ m cu 1 1 1 (cu - m) _ _ _ W8 b8 s1 s2 s3 (by omega)).mono ?_
  rintro e w' ⟨v, rfl, ho, hb'⟩
  have hbo : Below wo.heap.size wo w' := ho8.trans (hb'.mono ho8.size)
  have hb6 : Below w6.heap.size w6 w' := h68.trans (hb'.mono h68.size)
  have hlen : l.length = m + 1 := by rw [← hq, List.length_map, hql]
  exact ⟨v, rfl, poll_inss hq hqi (fun b hb => hbo.block b hb.1.lt) m hlen ho (hg.keep (hb6.block g hg.lt)), hb6⟩
set_option maxHeartbeats 4000000 in
set_option maxRecDepth 100000 in
theorem ppolled_any (v : Value) (xs : List (List InsV)) (b n : Nat) (T : Nat → Bool) (w : World) (hx : BlksV w (NF w) v xs) (hK : SetK w b n T) (hmax : xs.length ≤ 1000) (hone : 1 ≤ xs.length) (hc : ∀ l ∈ xs, 1 ≤ l.length ∧ l.length ≤ 1000) :
    Calls Try.prog 43 #[v, .map (some b)] w (PolA xs T w) := by
  have HCL := hide (bclone_any v xs w (NF w) (fun b hb => hb.lt) hx (by omega))
  have HK := hide hK
  have HC := hide hc
  obtain ⟨ls, hls⟩ : ∃ ls, xs.length = ls := ⟨_, rfl⟩
  have HLS := hide hls
  have HML := hide (fun (k : Nat) (l : List InsV) (h : xs[k]? = some l) => layTo_old (T := T) h)
  rw [hls] at hmax hone
  obtain ⟨A, c, rfl⟩ := hx.at14
  rw [hls] at HCL ⊢
  clear hx hK hc hls
  go_enter Try.func43, Try.ntmps43
  go_upto_region 3 with (go_at_call 53; refine HCL.out.mono ?_; rintro e w1 ⟨v1, cl, rfl, ho1, hm1, hc1, hb1⟩; have hcl : cl.length = ls := (by have := congrArg List.length hm1; rw [List.length_map, HLS.out] at this; exact this); obtain ⟨g, cc, hv1, hg1, hg2, hlc, -, -⟩ := ho1.blk (by omega); rw [hcl] at hv1; subst hv1; have HW1 := hide (show PolB w w1 g ls cc xs T 0 cl from ⟨ho1, by rw [hm1, layTo_zero], fun p hp => (hc1 p hp).keep (fun x o hx => hb1.cell (p := ⟨x, o, none⟩) hx.lt) (fun x hx => ⟨hx.keep (hb1.block x hx.lt), by have := hx.lt; omega⟩), hb1⟩); have HK1 := hide (HK.out.below hb1); clear ho1 hm1 hc1 hb1 hcl hlc)
  have HG := hide hg1
  clear hg1 hg2
  go_loopw [14] (fun i wr => ∃ (k : Nat) (cl : List (List InsV × Value)), k ≤ ls ∧ i = .int .i64 k ∧ Hid (PolB w wr g ls cc xs T k cl) ∧ Hid (SetK wr b n T)) (fun i _ => ls - (intOf i).toNat)
  case atStart => exact ⟨0, cl, Nat.zero_le _, rfl, HW1, HK1⟩
  case round =>
    obtain ⟨k, cl, hk, rfl, HP, HKK⟩ := hrel
    obtain ⟨wo, rfl⟩ : ∃ wo, wo = wr := ⟨_, rfl⟩
    have HCLL := hide (show cl.length = ls by have := congrArg List.length HP.out.map; rw [List.length_map, layTo_len, HLS.out] at this; exact this)
    by_cases hlt : k < ls
    case neg =>
      obtain rfl : k = ls := by omega
      have HE := hide (show BlksV wo (NF wo) (.slice (some ⟨g, 0, none⟩) k cc) (layTo xs T xs.length) by
        rw [HLS.out, ← HP.out.map]
        exact blks_vec HP.out.own (fun p hp => (HP.out.code p hp).keep (fun _ _ _ => rfl) (fun _ h => h.1)) (fun b hb => .inr (.inl (HP.out.own.row b hb))))
      go_wp2
      go_ret
      exact ⟨_, rfl, HE.out, HP.out.bel⟩
    have HLT := hide hlt
    obtain ⟨l, hl⟩ : ∃ l, xs[k]? = some l := ⟨_, List.getElem?_eq_getElem (by have := HLS.out; omega)⟩
    obtain ⟨hl1, hl1000⟩ := HC.out l (List.mem_of_getElem? hl)
    obtain ⟨u, hu⟩ : ∃ u, cl[k]? = some (l, u) := by
      have t := HML.out k l hl
      rw [← HP.out.map, List.getElem?_map] at t
      cases h : cl[k]? with
      | none => rw [h] at t; cases t
      | some p =>
        rw [h] at t
        injection t with t
        exact ⟨p.2, by rw [← t]⟩
    have hin : InssV wo (NG wo g) u l := HP.out.code _ (List.mem_of_getElem? hu)
    obtain ⟨m, hm⟩ : ∃ m, l.length = m + 1 := ⟨l.length - 1, by omega⟩
    obtain ⟨Au, cu, rfl, hcu, hcm⟩ := hin.open'
    obtain ⟨q, hq, hqi, hqc⟩ := InssV.cells14 hin
    obtain ⟨ga, oa, rfl, hga, hcell⟩ := hqc (by omega)
    rw [hm] at hu hcu
    have HQL := hide (show q.length = m + 1 by have := congrArg List.length hq; rw [List.length_map, hm] at this; exact this)
    have HQ := hide hq
    have HQI := hide hqi
    have HQC := hide hcell
    have HGA := hide hga
    have hga2 : ga < wo.heap.size := hga.1.lt
    have HU := hide hu
    have HL := hide hl
    have HM := hide hm
    obtain ⟨d0', f0'⟩ := HP.out.own.at' HCLL.out (fun _ => rfl) hu (i := 0) (by omega)
    rw [Nat.mul_one, Nat.add_zero] at d0' f0'
    have d0 : wo.cell? ⟨g, k, none⟩ = some (.slice (some ⟨ga, oa, none⟩) (m + 1) cu) := by rw [← hm]; rw [← hm] at d0'; exact d0'
    have hgo : g < wo.heap.size := (HP.out.own.lt g rfl).2
    rw [hm] at hl1000
    have hki : (0 : Int) ≤ (k : Int) := by omega
    have hkl : (k : Int) < (ls : Int) := by omega
    clear d0' f0' hl hu hq hqi hcell hga hin hqc hl1 hm
    go_upto_region 5 with (fail)
    obtain ⟨w5, hw5⟩ : ∃ w5, w5 = wo.alloc (.cells #[.slice (some ⟨ga, oa, none⟩) (m + 1) cu] 53) := ⟨_, rfl⟩
    obtain ⟨h5, hh5⟩ : ∃ h5, wo.heap.size = h5 := ⟨_, rfl⟩
    have HX5 := hide (show Box w5 h5 #[.slice (some ⟨ga, oa, none⟩) (m + 1) cu] 53 by rw [hw5, ← hh5]; exact Box.new wo _ _)
    have HB5 := hide (show Below wo.heap.size wo w5 by rw [hw5]; exact alloc1 wo _)
    rw [← hw5, hh5]
    clear hw5 d0
    have hz5 := HB5.out.size
    have l5 := HX5.out.lt
    have HP5 := hide (HP.out.below HB5.out)
    have HK5 := hide (HKK.out.below HB5.out)
    have hlk := HK5.out.look k (by omega)
    obtain ⟨w6, hw6⟩ : ∃ w6, w6 = w5.alloc (.cells #[] 81) := ⟨_, rfl⟩
    have HB6 := hide (show Below w5.heap.size w5 w6 by rw [hw6]; exact alloc1 w5 _)
    have HP6 := hide (HP5.out.below HB6.out)
    have HK6 := hide (HK5.out.below HB6.out)
    have HX6 := hide (HX5.out.below HB6.out)
    cases hT : T k with
    | false =>
      rw [hT] at hlk
      have HS := hide (HP6.out.skip hT)
      clear hT
      go_wp2
      rw [← hw6]
      go_roundw
      case rel => exact ⟨k + 1, cl, by have := HLT.out; omega, by go_num, HS, HK6⟩
      case measure => have := HLT.out; simp [intOf]; omega
    | true =>
      rw [hT] at hlk
      have HT := hide hT
      clear hT
      have e1 : ((m + 1 : Nat) : Int) - 1 = (m : Int) := by omega
      have x5 := (HX5.out.cell 0 (v := .slice (some ⟨ga, oa, none⟩) (m + 1) cu) rfl).1
      go_upto_region 8 with (fail)
      rw [← hw6]
      have hs6 := HB6.out.size
      have l6 := HX6.out.lt
      have x6 := (HX6.out.cell 0 (v := .slice (some ⟨ga, oa, none⟩) (m + 1) cu) rfl).1
      have hm0 : (0 : Int) ≤ (m : Int) := by omega
      have hm1 : m ≤ cu := by omega
      have hm2 : ¬ m = cu := by omega
      have hm3 : (m : Int) ≤ (cu : Int) := by omega
      have hm4 : m < cu := by omega
      have hm5 : (m : Int) ≤ ((m + 1 : Nat) : Int) := by omega
      have hm6 : m + 1 - m = 1 := by omega
      have hm7 : m ≤ m + 1 := by omega
      have hm8 : ¬ cu = m := by omega
      have hm9 : (m : Int) ≤ (m : Int) + 1 := by omega
      clear hw6 hlk x5 l5 hz5
      have hgT : TB w6 53 g := HP6.out.own.row g rfl
      have hg6 : g < w6.heap.size := hgT.lt
      have HCC := hide (pollcat14 (cu := cu) HQ.out HQL.out HQI.out hga2 HQC.out (HB5.out.trans (HB6.out.mono HB5.out.size)) (by omega) hgT)
      have HST := hide (fun (W : World) (hW : Below w6.heap.size w6 W) => (show W.cell? ⟨h5, 0, none⟩ = some (.slice (some ⟨ga, oa, none⟩) (m + 1) cu) ∧ W.cell? ⟨g, k, none⟩ = some (.slice (some ⟨ga, oa, none⟩) (m + 1) cu) ∧ W.frozen? ⟨g, k, none⟩ = false from by
        obtain ⟨t1, t2⟩ := (HP6.out.below hW).own.at' HCLL.out (fun _ => rfl) HU.out (i := 0) (by omega)
        rw [Nat.mul_one, Nat.add_zero] at t1 t2
        exact ⟨((HX6.out.below hW).cell 0 (v := .slice (some ⟨ga, oa, none⟩) (m + 1) cu) rfl).1, t1, t2⟩))
      have hne1 : ¬ h5 = g := by omega
      have hne2 : ¬ g = h5 := by omega
      clear hgT
      obtain ⟨pn, hpn⟩ : ∃ pn, (pollB l).length = pn := ⟨_, rfl⟩
      have HPN := hide hpn
      clear hpn
      go_region_held3 (fun w' => w'.cell? ⟨h5, 0, none⟩ = some (.slice (some ⟨ga, oa, none⟩) (m + 1) cu)) (first | go_keep | (exact q8))
        (first
          | (go_at_call 59; refine HCC.out.mono ?_; rintro e w8 ⟨v8, rfl, hi8, hb8⟩; obtain ⟨A8, k8, hv8, -, -⟩ := hi8.open'; rw [HPN.out] at hv8; subst hv8; obtain ⟨q8, c8, f8⟩ := HST.out w8 hb8; have HI8 := hide hi8; have HB8 := hide hb8; have lg8 : g < w8.heap.size := (by have := hb8.size; omega); clear hi8 hb8))
      go_wp2
      go_roundw
      case rel =>
        have HPL := HP6.out.below HB8.out
        exact ⟨k + 1, _, by have := HLT.out; omega, by go_num, hide (HPL.put HT.out HL.out HU.out HCLL.out HI8.out), hide ((HK6.out.below HB8.out).kept (heap_setCell_other w8 ⟨g, k, none⟩ b _ (by
          intro e
          subst e
          obtain ⟨cur, h', e1⟩ := HP6.out.own.row b rfl
          obtain ⟨D, ⟨es, clock, e2, -⟩, -⟩ := HK6.out
          rw [e1] at e2
          cases e2)))⟩
      case measure => have := HLT.out; simp [intOf]; omega
end Go.Proofs.Ytnoknodijombpaa
