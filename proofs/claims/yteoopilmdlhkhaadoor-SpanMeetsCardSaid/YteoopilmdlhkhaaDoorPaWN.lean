/- Layer 15, the program: Calls. Conditions: the tables of parts and of the library read as listed. -/
import Derived.Test.YteoopilmdlhkhaaDoorPaWL
import Derived.Test.YteoopilmdlhkhaaDoorPaHA
set_option linter.unusedSimpArgs false
set_option linter.unusedVariables false
namespace Go.Proofs.YteoopilmdlhkhaaDoor
open Go.RowKit

/-- The variables of spans that are marked. -/
def cvL15 (l : List SpV) : List Int := l.flatMap fun s => if s.c = true then [s.v] else []
theorem cvL15_snoc (l : List SpV) (s : SpV) : cvL15 (l ++ [s]) = cvL15 l ++ (if s.c = true then [s.v] else []) := by simp [cvL15]
theorem cvL15_len (l : List SpV) : (cvL15 l).length ≤ l.length := by
  induction l with
  | nil => simp [cvL15]
  | cons s l ih =>
    unfold cvL15 at ih ⊢
    rw [List.flatMap_cons, List.length_append, List.length_cons]
    split <;> simp only [List.length_singleton, List.length_nil] <;> omega
theorem cvL15_mem {l : List SpV} {z : Int} : z ∈ cvL15 l ↔ ∃ s ∈ l, s.c = true ∧ s.v = z := by
  unfold cvL15
  rw [List.mem_flatMap]
  constructor
  · rintro ⟨s, hs, h⟩
    split at h
    · rename_i hc
      simp at h
      exact ⟨s, hs, hc, h.symm⟩
    · cases h
  · rintro ⟨s, hs, hc, rfl⟩
    exact ⟨s, hs, by rw [if_pos hc]; simp⟩
/-- No more spans than variables. -/
theorem sp_len15 {f : FunV} {l : List Int} (hl : ∀ b ∈ l, (codeOf f b.toNat).length ≤ 40) (h40 : l.length ≤ 40) {sp : List SpV} (h : SpL15 (fnd15 f l).2 sp) : sp.length ≤ 4096 ∧ ∀ s ∈ sp, 0 ≤ s.v ∧ s.v < 4096 := by
  have hi := fnd_inv15 f l l.length (Nat.le_refl _)
  rw [List.take_length] at hi
  have hR : ∀ s ∈ sp, 0 ≤ s.v ∧ s.v < 4096 := fun s hs => by
    obtain ⟨-, h2, -⟩ := hi.yes s.v s ((h.1 s).1 hs)
    have := ptF_R15 hl h40 h2
    omega
  refine ⟨?_, hR⟩
  have hnd : (sp.map (·.v)).Nodup := by
    have hnd0 : sp.Nodup := h.2.imp (fun {a b} hab e => by subst e; rw [lt15_iff] at hab; omega)
    refine List.pairwise_map.2 (hnd0.imp_of_mem fun {a b} ha hb hne e => hne ?_)
    have h1 := (h.1 a).1 ha
    have h2 := (h.1 b).1 hb
    rw [e, h2] at h1
    injection h1 with h1
    exact h1.symm
  have hnd3 : ((sp.map (·.v)).map (fun z => z + 1)).Nodup := List.pairwise_map.2 (hnd.imp (fun {a b} hne e => hne (by omega)))
  have t := nodup_le (n := 4096) hnd3 (fun y hy => by
    obtain ⟨z, hz, rfl⟩ := List.mem_map.1 hy
    obtain ⟨s, hs, rfl⟩ := List.mem_map.1 hz
    have := hR s hs
    omega)
  rwa [List.length_map, List.length_map] at t
theorem some15 {P : Program} {f : FuncId} {args : Array Value} {w : World} {R : Ending → World → Prop} (h : Calls P f args w R) : ∃ e w', R e w' := by
  obtain ⟨e, w', fr, h, -⟩ := h []
  exact ⟨e, w', h⟩
/-- There is what is live at a block's end. -/
theorem ends15 (vk vb vs : Value) (f : FunV) (bi : Nat) (w : World) (B : Nat) (hB : B ≤ w.heap.size) (hi : FunI w (· < B) vk vb vs f) (hT : TabP w) (hok : FlowOk f) (hbi : bi < f.blocks.length) (hne : ∀ c, c < f.blocks.length → codeOf f c ≠ []) (hfew : ∀ l ∈ f.blocks, ∀ x ∈ l, x.args.length ≤ 1099511627000) : EndS f bi (endT15 f bi) := by
  obtain ⟨e, w', r, s, -, hq, -⟩ := some15 (out_anyL vk vb vs f (bi : Int) w B hB hi hT hok hne hfew)
  obtain ⟨ls, hl⟩ : ∃ ls, f.blocks[bi]? = some ls := ⟨_, List.getElem?_eq_getElem hbi⟩
  have hnl : 0 < ls.length := by
    have t := hne bi hbi
    unfold codeOf at t
    rw [hl] at t
    exact List.length_pos_iff.2 t
  unfold LvQ at hq
  rw [if_pos (by unfold hereB; rw [sizeN_nat hl]; simp; omega)] at hq
  obtain ⟨t, ht, -⟩ := hq
  have ht' : EndS f bi t := by simpa using ht
  rw [endT15_eq hok ht']
  exact ht'
set_option maxRecDepth 100000 in
set_option maxHeartbeats 4000000 in
theorem calls_any15 (vk vb vs : Value) (f : FunV) (w : World) (B : Nat) (hB : B ≤ w.heap.size) (hi : FunI w (· < B) vk vb vs f) (hT : TabP w) (hTB : 0 < B) (hW : TabW w) (hWB : 1 < B) (hok : FlowOk f) (h1 : 1 ≤ f.blocks.length) (hne : ∀ c, c < f.blocks.length → codeOf f c ≠ []) (hfew : ∀ l ∈ f.blocks, ∀ x ∈ l, x.args.length ≤ 1099511627000) (hk : f.kinds.length ≤ 1000) :
    Calls Tryd.prog 9 #[.agg #[vk, vb, .int .i64 f.params, .int .i64 f.result, vs]] w fun e w' => ∃ r sp o, e = .returned r ∧ OrderOf f o ∧ SpL15 (fnd15 f o).2 sp ∧ WN w w' r (ofL (cvL15 sp)) ∧ Below w.heap.size w w' := by
  have HSP := hide (fun (W : World) (hWW : Below w.heap.size w W) => spans_any15 vk vb vs f W B (by have := hWW.size; omega) (hi.keep (up hWW hB) (fun _ h => h)) (hT.below hWW hT.1) hTB (hW.below hWW hW.1) hWB hok h1 hne hfew hk)
  have HLN := hide (fun (o : List Int) (ho : OrderOf f o) (sp : List SpV) (hs : SpL15 (fnd15 f o).2 sp) => sp_len15 (f := f) (l := o) (fun b hb => by
    obtain ⟨h2, h3⟩ := (order_reach hok h1 ho).rng b hb
    obtain ⟨l, hl⟩ : ∃ l, f.blocks[b.toNat]? = some l := ⟨_, List.getElem?_eq_getElem (by omega)⟩
    unfold codeOf
    rw [hl]
    exact hok.2.1 l (List.mem_of_getElem? hl)) (order_len hok h1 ho) hs)
  obtain ⟨i0, hi0, iz0, iz1, iz2⟩ := info_parts info_i64
  have HI := hide hi0
  obtain ⟨Ak, ck, rfl, hck, hmk⟩ := hi.1.open'
  obtain ⟨Ab, cb, rfl, hcb, hmb⟩ := hi.2.1.open'
  obtain ⟨As, cs, rfl, hcs, hms⟩ := hi.2.2.1.open'
  obtain ⟨OF, hOF⟩ := letl (OrderOf f)
  obtain ⟨FN, hFN⟩ := letl (fnd15 f)
  rw [hOF, hFN] at HSP HLN
  rw [hOF, hFN]
  clear hi hT hW hok h1 hne hfew hk hOF hFN hi0
  generalize f.kinds.length = lk, f.base.length = lb, f.params = fp, f.result = fr, f.blocks.length = nls at *
  go_enter Tryd.func9, Tryd.ntmps9
  go_upto_region 1 with (fail)
  obtain ⟨w1, hw1⟩ := letr (w.alloc (.cells #[.slice Ak lk ck, .slice Ab lb cb, .int .i64 fp, .int .i64 fr, .slice As nls cs] 34))
  obtain ⟨h5, hh5⟩ := letl w.heap.size
  have HX1 := lBox hw1 hh5
  have HB1 := lBel hw1
  rw [← hw1]
  clear hw1
  have x2 := And.intro ((HX1.out.below (Below.refl _ _)).cell 0 (v := .slice Ak lk ck) rfl).1 (And.intro ((HX1.out.below (Below.refl _ _)).cell 1 (v := .slice Ab lb cb) rfl).1 (And.intro ((HX1.out.below (Below.refl _ _)).cell 2 (v := .int .i64 fp) rfl).1 (And.intro ((HX1.out.below (Below.refl _ _)).cell 3 (v := .int .i64 fr) rfl).1 (((HX1.out.below (Below.refl _ _)).cell 4 (v := .slice As nls cs) rfl).1))))
  have l2 := HX1.out.lt
  go_upto_region 3 with (go_at_call 7; (with_reducible refine (HSP.out w1 HB1.out).mono ?_); rintro e w2 ⟨v2, sp, o, rfl, hO, hsp, hs2, hb2⟩; obtain ⟨A2, c2, rfl, hc2, hm2⟩ := id hs2.open'; obtain ⟨ns, hns⟩ := letl sp.length; rw [hns] at hs2 hc2 ⊢; have HNS := hide hns; have HO := hide hO; have HSPL := hide hsp; have HS2 := hide hs2; have HB2 := hide (HB1.out.trans (hb2.mono HB1.out.size)); clear hO hsp hs2 hb2 x2 l2 hns)
  have HLE := hide (HLN.out o HO.out sp HSPL.out)
  have hns4 : ns ≤ 4096 := by have := HLE.out.1; have := HNS.out; omega
  go_loopw [3, 9] (fun lv z wr => ∃ k : Nat, k ≤ ns ∧ z = .int .i64 (k : Int) ∧ Hid (OwC intC 3 1 wr w2.heap.size lv (cvL15 (sp.take k))) ∧ Below w2.heap.size w2 wr) (fun _ z _ => ns - (intOf z).toNat)
  case atStart => exact ⟨0, Nat.zero_le _, rfl, hide (OwC.nil _ _), Below.refl _ _⟩
  case round =>
    obtain ⟨k, hkn, rfl, HMK, hb⟩ := hrel
    obtain ⟨wo, rfl⟩ : ∃ wo, wo = wr := ⟨_, rfl⟩
    have HBO := hide hb
    have hzo := hb.size
    clear hb
    by_cases hlt : k < ns
    case neg =>
      obtain rfl : ns = k := by omega
      have hnn : ¬ ((ns : Int) < (ns : Int)) := by omega
      rw [List.take_of_length_le (Nat.le_of_eq HNS.out)] at HMK
      obtain ⟨A5, c5, e5, -, -⟩ := HMK.out.sl
      obtain ⟨nc, hnc⟩ := letl (cvL15 sp).length
      rw [hnc] at e5
      subst e5
      have HOFL := hide (show Calls Tryd.prog 17 #[.slice A5 nc c5] wo fun e w' => ∃ r, e = .returned r ∧ WN wo w' r (ofL (cvL15 sp)) ∧ Below wo.heap.size wo w' from by
        obtain ⟨A6, c6, e6, -, -, s6⟩ := HMK.out.ints.sl
        injection e6 with e7 e8 e9
        subst e7
        have q := cvL15_len sp
        refine (of_anyN A5 nc c5 (cvL15 sp) wo s6 hnc (by have := HNS.out; omega) (fun z hz => ?_)).mono fun _ _ h => h.wn
        obtain ⟨s, hs, -, rfl⟩ := cvL15_mem.1 hz
        have := HLE.out.2 s hs
        omega)
      go_wp2_with (go_at_call 17; (with_reducible refine HOFL.out.mono ?_); rintro e w6 ⟨r6, rfl, hr6, hb6⟩)
      go_ret
      have hwz := HB2.out.size
      have HFI := hide (And.intro (hr6.lower (W0 := w) (by omega)) ((HB2.out.trans (HBO.out.mono (by omega))).trans (hb6.mono (by omega))))
      first | exact ⟨r6, sp, o, rfl, HO.out, HSPL.out, HFI.out.1, HFI.out.2⟩ | exact ⟨r6, rfl, sp, o, HO.out, HSPL.out, HFI.out.1, HFI.out.2⟩ | exact ⟨sp, o, HO.out, HSPL.out, HFI.out.1, HFI.out.2⟩
    have hlt' : (k : Int) < (ns : Int) := by omega
    have hk0 : (0 : Int) ≤ (k : Int) := by omega
    have HLT := hide hlt
    obtain ⟨s, hs⟩ : ∃ s, sp[k]? = some s := ⟨_, List.getElem?_eq_getElem (by have := HNS.out; omega)⟩
    obtain ⟨b2, o2, e2, hbS, ⟨s0, s1, s2, s3⟩, -⟩ := HS2.out.get hs
    subst e2
    have hb22 : b2 < w2.heap.size := hbS.2
    have d0 := (HBO.out.cell (p := ⟨b2, o2 + k * 4, none⟩) hb22).trans s0
    have d1 := (HBO.out.cell (p := ⟨b2, o2 + k * 4 + 1, none⟩) hb22).trans s1
    have d2 := (HBO.out.cell (p := ⟨b2, o2 + k * 4 + 2, none⟩) hb22).trans s2
    have d3 := (HBO.out.cell (p := ⟨b2, o2 + k * 4 + 3, none⟩) hb22).trans s3
    have lb2 : b2 < wo.heap.size := by omega
    have HSN := hide (show cvL15 (sp.take (k + 1)) = cvL15 (sp.take k) ++ (if s.c = true then [s.v] else []) from by rw [List.take_add_one, hs, Option.toList_some, cvL15_snoc])
    have hcl : (cvL15 (sp.take k)).length ≤ 4096 := by have := cvL15_len (sp.take k); rw [List.length_take] at this; omega
    obtain ⟨L0, hL0⟩ := letl (cvL15 (sp.take k))
    rw [hL0] at HSN hcl
    rw [hL0] at HMK
    obtain ⟨A5, c5, hv5, hc5, -⟩ := HMK.out.sl
    subst hv5
    obtain ⟨nj, hnj⟩ := letl L0.length
    rw [hnj] at HMK hcl hc5 ⊢
    have HNJ := hide hnj
    obtain ⟨sv, sf, st, sc⟩ := s
    simp only at d0 d1 d2 d3 HSN
    clear hs s0 s1 s2 s3 hL0 hnj
    cases sc with
    | false =>
      simp only [Bool.false_eq_true, if_false, List.append_nil] at HSN
      have HAW := hide (HMK.out.below (alloc1 wo (.cells #[.int .i64 sv, .int .i64 sf, .int .i64 st, .bool false] 23)))
      have HBW := hide (HBO.out.trans ((alloc1 wo (.cells #[.int .i64 sv, .int .i64 sf, .int .i64 st, .bool false] 23)).mono HBO.out.size))
      go_wp2
      go_roundw
      case rel => exact ⟨k + 1, by have := HLT.out; omega, by go_num, hide (by rw [HSN.out]; exact HAW.out), HBW.out⟩
      case measure => have := HLT.out; simp [intOf]; omega
    | true =>
      simp only [if_true] at HSN
      obtain ⟨w7, hw7⟩ := letr (wo.alloc (.cells #[.int .i64 sv, .int .i64 sf, .int .i64 st, .bool true] 23))
      have HA7 := hide (show OwC intC 3 1 w7 w2.heap.size (.slice A5 nj c5) L0 from by rw [hw7]; exact HMK.out.below (alloc1 wo _))
      have HB7 := hide (show Below w2.heap.size w2 w7 from by rw [hw7]; exact HBO.out.trans ((alloc1 wo _).mono HBO.out.size))
      have BX7 := hide (show Box w7 wo.heap.size #[.int .i64 sv, .int .i64 sf, .int .i64 st, .bool true] 23 from by rw [hw7]; exact Box.new wo _ _)
      obtain ⟨h7, hh7⟩ := letl wo.heap.size
      rw [hh7] at BX7
      go_upto_region 5 with (fail)
      rw [← hw7]
      have y3 := (BX7.out.cell 3 (v := .bool true) rfl).1
      have y0 := (BX7.out.cell 0 (v := .int .i64 sv) rfl).1
      have ly := BX7.out.lt
      clear hw7 hh7
      obtain ⟨Hb, hHb⟩ := letl w7.heap.size
      obtain ⟨w8, hw8⟩ := letr (w7.alloc (.cells #[.int .i64 sv] 3))
      have BXb := lBox hw8 hHb
      have HW8 := hide (And.intro hw8 hHb)
      have HA8 := hide (show OwC intC 3 1 w8 w2.heap.size (.slice A5 nj c5) L0 from HA7.out.below (lBel hw8).out)
      have HC8 := hide (HB7.out.trans ((lBel hw8).out.mono HB7.out.size))
      clear hw8 hHb
      go_wp2_with (at_builtin; rw [← HW8.out.1]; (try rw [HW8.out.2]); refine wpList_append_c (c := intC) (sz := 1) w8 (by rfl) _ _ _ (by rfl) w2.heap.size i0 _ 8 Tryd.underlying26 HI.out iz0 iz1 iz2 rfl (by omega) (by omega) (.slice A5 nj c5) L0 nj HNJ.out (by rfl) HA8.out sv rfl (fun u hu => by simp only [intC, List.mem_singleton] at hu; subst hu; rfl) Hb _ BXb.out rfl (by rfl) (by omega) HC8.out.size ?_; intro g5 k5 w9 ho5 hg5 hv5 hl5; have HO5 := hide ho5; have HB9 := hide (HC8.out.grown hg5 HC8.out.size (fun b hb' => (HA8.out.lt b hb').1)); clear ho5 hg5 hv5 hl5)
      go_roundw
      case rel => exact ⟨k + 1, by have := HLT.out; omega, by go_num, hide (by rw [HSN.out]; exact HO5.out), HB9.out⟩
      case measure => have := HLT.out; simp [intOf]; omega
end Go.Proofs.YteoopilmdlhkhaaDoor
