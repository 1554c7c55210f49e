/- Layer 9, the program: contract of Alloc. No condition but on lengths. -/
import Derived.Test.YtjlndibeaklcdaaHH
set_option linter.unusedSimpArgs false
set_option linter.unusedVariables false
namespace Go.Proofs.Ytjlndibeaklcdaa
open Go.RowKit

/-- Behind the two slices and the object are laid. -/
def AL1 (w1 : World) (r i : Nat) (f : Value) (wx : World) : Prop :=
  ∃ hr hi hf, f = .pointer (some ⟨hf, 0, none⟩) ∧ (w1.heap.size ≤ hr ∧ w1.heap.size ≤ hi ∧ w1.heap.size ≤ hf) ∧ Below w1.heap.size w1 wx ∧ Box wx hr ((List.replicate r (0 : Int)).map (Value.int .i64)).toArray 3 ∧ Box wx hi ((List.replicate i (0 : Int)).map (Value.int .i64)).toArray 3 ∧ Box wx hf #[.slice (some ⟨hr, 0, none⟩) r r, .slice (some ⟨hi, 0, none⟩) i i] 43
theorem al3h (w : World) (o1 o2 o3 : Obj) : (((w.alloc o1).alloc o2).alloc o3).drew.heap[w.heap.size]? = some o1 ∧ (((w.alloc o1).alloc o2).alloc o3).drew.heap[w.heap.size + 1]? = some o2 ∧ (((w.alloc o1).alloc o2).alloc o3).drew.heap[w.heap.size + 1 + 1]? = some o3 := by
  have h1 := heap_alloc_new w o1
  have h2 := heap_alloc_new (w.alloc o1) o2
  have h3 := heap_alloc_new ((w.alloc o1).alloc o2) o3
  simp only [World.size_alloc] at h2 h3
  refine ⟨?_, ?_, h3⟩
  · exact (Below.heap_alloc _ _ _ (by simp only [World.size_alloc]; omega)).trans ((Below.heap_alloc _ _ _ (by simp only [World.size_alloc]; omega)).trans h1)
  · exact (Below.heap_alloc _ _ _ (by simp only [World.size_alloc]; omega)).trans h2
theorem below3 (w : World) (o1 o2 o3 : Obj) : Below w.heap.size w (((w.alloc o1).alloc o2).alloc o3).drew :=
  ((((Below.refl _ _).alloc (Nat.le_refl _) _).alloc (by simp only [World.size_alloc]; omega) _).alloc (by simp only [World.size_alloc]; omega) _).drew
theorem al1_mk {w1 : World} {r i hr hi hf : Nat} {Zr Zi : Array Value} {o1 o2 o3 : Obj} (hZr : Zr = ((List.replicate r (0 : Int)).map (Value.int .i64)).toArray) (hZi : Zi = ((List.replicate i (0 : Int)).map (Value.int .i64)).toArray)
    (hge : w1.heap.size ≤ hr ∧ w1.heap.size ≤ hi ∧ w1.heap.size ≤ hf)
    (h1 : (((w1.alloc o1).alloc o2).alloc o3).drew.heap[hr]? = some (.cells Zr 3)) (h2 : (((w1.alloc o1).alloc o2).alloc o3).drew.heap[hi]? = some (.cells Zi 3)) (h3 : (((w1.alloc o1).alloc o2).alloc o3).drew.heap[hf]? = some (.cells #[.slice (some ⟨hr, 0, none⟩) r r, .slice (some ⟨hi, 0, none⟩) i i] 43)) :
    AL1 w1 r i (.pointer (some ⟨hf, 0, none⟩)) (((w1.alloc o1).alloc o2).alloc o3).drew := by
  subst hZr
  subst hZi
  exact ⟨hr, hi, hf, rfl, hge, below3 _ _ _ _, h1, h2, h3⟩
theorem box_ints {w : World} {h r : Nat} (hb : Box w h ((List.replicate r (0 : Int)).map (Value.int .i64)).toArray 3) (hr : r ≤ 1000) {S : Nat → Prop} (hS : S h) : IntsV w S (.slice (some ⟨h, 0, none⟩) r r) (List.replicate r 0) := by
  refine ⟨_, r, by rw [List.length_replicate], by rw [List.length_replicate]; exact Nat.le_refl _, by omega, fun _ => ⟨h, 0, rfl, hS, fun j x hj => ⟨?_, ?_⟩⟩⟩
  · have hj' := hj
    have hjl := (List.getElem?_eq_some_iff.1 hj).1
    rw [Nat.zero_add, Nat.mul_one]
    refine (hb.cell j ?_).1
    rw [← Array.getElem?_toList]
    simp only [List.getElem?_map, hj, Option.map_some]
  · have := List.eq_of_mem_replicate (List.mem_of_getElem? hj)
    subst this
    unfold i64R; omega
set_option maxHeartbeats 2000000 in
set_option maxRecDepth 100000 in
theorem halloc_any (vh : Value) (h : List ObjV) (r i : Int) (w : World) (B : Nat) (hB : B ≤ w.heap.size) (hh : ObjsV w (· < B) vh h) (hmx : h.length ≤ 10000) :
    Calls Try.prog 8 #[.agg #[vh], .int .i64 r, .int .i64 i] w fun e w' => ∃ vh', e = .returned (.tuple #[.agg #[vh'], .int .i64 (allocR h r i).2.1, .int .i64 (((allocR h r i).2.2 : Nat) : Int)]) ∧ ObjsV w' (· < w'.heap.size) vh' (allocR h r i).1 ∧ Below w.heap.size w w' := by
  have HHS := hide (fun (W : World) (hW : Below w.heap.size w W) (S' : Nat → Prop) (hS' : ∀ b, b < B → S' b) => hh.keep (S' := S') (up hW hB) hS')
  have HSELF := hide (fun (W : World) (hW : Below w.heap.size w W) => hh.keep (S' := (· < W.heap.size)) (up hW hB) (fun b hb => by have := hW.size; omega))
  have HRT := hide (fun (W : World) (hW : Below w.heap.size w W) => hright_any vh h W B (by have := hW.size; omega) (hh.keep (up hW hB) (fun _ h => h)))
  have hal : allocB h r i = (rightB h && (sizeB r && sizeB i)) := rfl
  have HSR := hide (fun W => hsize_any r W)
  have HSI := hide (fun W => hsize_any i W)
  by_cases ha : allocB h r i = true
  case neg =>
    have hv : allocR h r i = (h, 0, 1) := by unfold allocR; rw [if_neg ha]
    rw [hv]
    have ha' := Bool.eq_false_iff.2 ha
    rw [hal] at ha'
    obtain ⟨Ao, c, rfl, hc, hm⟩ := hh.open'
    generalize h.length = n at *
    generalize rightB h = rb at *
    generalize sizeB r = sr at *
    generalize sizeB i = si at *
    clear hh ha hv hal
    cases rb <;> cases sr <;> cases si <;> first | (simp at ha'; done) | skip
    all_goals
      clear ha'
      go_enter Try.func8, Try.ntmps8
      go_upto_region 1 with (fail)
      obtain ⟨w1, hw1⟩ : ∃ w1, w1 = (w.alloc (.cells #[.slice Ao n c] 24)).alloc (.cells #[.slice none 0 0] 24) := ⟨_, rfl⟩
      obtain ⟨h5, hh5⟩ : ∃ h5, w.heap.size = h5 := ⟨_, rfl⟩
      have HX0 := hide (show Box w1 (h5) #[.slice Ao n c] 24 by rw [hw1, ← hh5]; have t := Box.new w #[.slice Ao n c] 24; (try simp only [World.size_alloc] at t); exact (t.alloc _))
      have HX1 := hide (show Box w1 (h5 + 1) #[.slice none 0 0] 24 by rw [hw1, ← hh5]; have t := Box.new (w.alloc (.cells #[.slice Ao n c] 24)) #[.slice none 0 0] 24; (try simp only [World.size_alloc] at t); exact t)
      have HB1 := hide (show Below w.heap.size w w1 by rw [hw1]; exact (((Below.refl _ _).alloc (Nat.le_refl _) _).alloc (by simp only [World.size_alloc]; omega) _))
      have w1s := HB1.out.size
      have w1z := hide (show w1.heap.size = h5 + 1 + 1 by rw [hw1, ← hh5]; simp only [World.size_alloc])
      have HK0 := hide (fun (W : World) (hW : Below w1.heap.size w1 W) => ((HX0.out.below hW).cell 0 (v := .slice Ao n c) rfl).1)
      have lHX0 := HX0.out.lt
      have HK1 := hide (fun (W : World) (hW : Below w1.heap.size w1 W) => ((HX1.out.below hW).cell 0 (v := .slice none 0 0) rfl).1)
      have lHX1 := HX1.out.lt
      have h5g : w.heap.size ≤ h5 := by omega
      rw [← hw1, hh5]
      clear hw1 hh5
      have p0 := HK0.out w1 (Below.refl _ _)
      go_wp2_with (first
        | (go_at_call_of 24 i; (with_reducible refine (HSI.out w2).mono ?_); rintro e w' ⟨rfl, rfl⟩)
        | (go_at_call_of 24 r; (with_reducible refine (HSR.out w2).mono ?_); rintro e w' ⟨rfl, rfl⟩)
        | (go_at_call 11; (with_reducible refine (HRT.out w1 HB1.out).mono ?_); rintro e w2 ⟨rfl, hb2⟩; have HC2 := hide hb2; have p2 := HK0.out w2 hb2; obtain ⟨z0, f0⟩ := (HX1.out.below hb2).cell 0 (v := .slice none 0 0) rfl; have l2 := hb2.size; clear hb2))
      have HZ := hide ((HX1.out.below HC2.out).set 0 (.slice Ao n c))
      have q0 := (HZ.out.cell 0 (v := .slice Ao n c) rfl).1
      have hbz : Below w.heap.size w (w2.setCell ⟨h5 + 1, 0, none⟩ (.slice Ao n c)) := (HB1.out.trans (HC2.out.mono HB1.out.size)).setCell (p := ⟨h5 + 1, 0, none⟩) (by show w.heap.size ≤ h5 + 1; omega) _
      refine bodyPost_ret (v := .tuple #[.agg #[.slice Ao n c], .int .i64 0, .int .i64 1]) (by simp [results, Try.results8, go_sem, q0]) rfl ⟨_, rfl, HSELF.out _ hbz, hbz⟩
  have hv : allocR h r i = (h ++ [newO r i], (h.length : Int) + 1, 0) := by unfold allocR; rw [if_pos ha]
  rw [hv]
  rw [hal, Bool.and_eq_true, Bool.and_eq_true] at ha
  obtain ⟨hr, hsr, hsi⟩ := ha
  have hr8 : 0 ≤ r ∧ r ≤ 8 := by simpa [sizeB] using hsr
  have hi8 : 0 ≤ i ∧ i ≤ 8 := by simpa [sizeB] using hsi
  rw [hr] at HRT
  rw [hsr] at HSR
  rw [hsi] at HSI
  obtain ⟨rn, rfl⟩ : ∃ k : Nat, r = k := ⟨r.toNat, by omega⟩
  obtain ⟨jn, rfl⟩ : ∃ k : Nat, i = k := ⟨i.toNat, by omega⟩
  have hnew : newO (rn : Int) (jn : Int) = ⟨List.replicate rn 0, List.replicate jn 0⟩ := by unfold newO; rw [Int.toNat_natCast, Int.toNat_natCast]
  rw [hnew]
  have hrn : rn ≤ 8 := by omega
  have hjn : jn ≤ 8 := by omega
  have hmkr := mk_run 26 3 Try.underlying26 info_i64 (by omega) rn (by omega)
  have hmki := mk_run 26 3 Try.underlying26 info_i64 (by omega) jn (by omega)
  have hZr : madeCells (Value.int .i64 0).cells (rn * 1) = ((List.replicate rn (0 : Int)).map (Value.int .i64)).toArray := madeCells_int rn
  have hZi : madeCells (Value.int .i64 0).cells (jn * 1) = ((List.replicate jn (0 : Int)).map (Value.int .i64)).toArray := madeCells_int jn
  generalize madeCells (Value.int .i64 0).cells (rn * 1) = Zr at *
  generalize madeCells (Value.int .i64 0).cells (jn * 1) = Zi at *
  have HZr := hide hZr
  have HZi := hide hZi
  have HNN := hide hnew
  have HCN := hide (fun (hs : Nat) (A1 A2 : Option Addr) (c d : Nat) (ys : List ObjV) (W : World) (S : Nat → Prop) (hS : ∀ b, S b → b < W.heap.size) (hb : Box W hs #[.slice A1 h.length c, .slice A2 1 d] 22) (hx : ObjsV W S (.slice A1 h.length c) h) (hy : ObjsV W S (.slice A2 1 d) ys) (hm : ys.length = 1) => hconcat_any hs A1 A2 h.length c 1 d h ys W S hS hb hx hy rfl hm (by omega))
  have HLEN := hide (show (h ++ [(⟨List.replicate rn 0, List.replicate jn 0⟩ : ObjV)]).length = h.length + 1 by simp)
  obtain ⟨Ao, c, rfl, hc, hm⟩ := hh.open'
  generalize h.length = n at *
  clear hh hv hal hr hsr hsi hr8 hi8 hnew hZr hZi
  go_enter Try.func8, Try.ntmps8
  go_upto_region 1 with (fail)
  obtain ⟨w1, hw1⟩ : ∃ w1, w1 = (w.alloc (.cells #[.slice Ao n c] 24)).alloc (.cells #[.slice none 0 0] 24) := ⟨_, rfl⟩
  obtain ⟨h5, hh5⟩ : ∃ h5, w.heap.size = h5 := ⟨_, rfl⟩
  have HX0 := hide (show Box w1 (h5) #[.slice Ao n c] 24 by rw [hw1, ← hh5]; have t := Box.new w #[.slice Ao n c] 24; (try simp only [World.size_alloc] at t); exact (t.alloc _))
  have HX1 := hide (show Box w1 (h5 + 1) #[.slice none 0 0] 24 by rw [hw1, ← hh5]; have t := Box.new (w.alloc (.cells #[.slice Ao n c] 24)) #[.slice none 0 0] 24; (try simp only [World.size_alloc] at t); exact t)
  have HB1 := hide (show Below w.heap.size w w1 by rw [hw1]; exact (((Below.refl _ _).alloc (Nat.le_refl _) _).alloc (by simp only [World.size_alloc]; omega) _))
  have w1s := HB1.out.size
  have w1z := hide (show w1.heap.size = h5 + 1 + 1 by rw [hw1, ← hh5]; simp only [World.size_alloc])
  have HK0 := hide (fun (W : World) (hW : Below w1.heap.size w1 W) => ((HX0.out.below hW).cell 0 (v := .slice Ao n c) rfl).1)
  have lHX0 := HX0.out.lt
  have HK1 := hide (fun (W : World) (hW : Below w1.heap.size w1 W) => ((HX1.out.below hW).cell 0 (v := .slice none 0 0) rfl).1)
  have lHX1 := HX1.out.lt
  have h5g : w.heap.size ≤ h5 := by omega
  rw [← hw1, hh5]
  clear hw1 hh5
  have p0 := HK0.out w1 (Below.refl _ _)
  go_upto_region 3 with (first
    | (go_at_call_of 24 (jn : Int); (with_reducible refine (HSI.out w2).mono ?_); rintro e w' ⟨rfl, rfl⟩)
    | (go_at_call_of 24 (rn : Int); (with_reducible refine (HSR.out w2).mono ?_); rintro e w' ⟨rfl, rfl⟩)
    | (go_at_call 11; (with_reducible refine (HRT.out w1 HB1.out).mono ?_); rintro e w2 ⟨rfl, hb2⟩; have HC2 := hide hb2; have l2 := hb2.size; clear hb2))
  go_cut [9] from 25 to 29 (fun f wx => AL1 w2 rn jn f wx)
  case first =>
    go_region
    all_goals
      go_wp2_with fail
      go_meet
    all_goals first
      | exact al1_mk HZr.out HZi.out (by omega) (al3h _ _ _ _).1 (al3h _ _ _ _).2.1 (al3h _ _ _ _).2.2
      | exact al1_mk HZr.out HZi.out (by omega) (al3h _ _ _ _).1 (al3h _ _ _ _).2.2 (al3h _ _ _ _).2.1
      | exact al1_mk HZr.out HZi.out (by omega) (al3h _ _ _ _).2.1 (al3h _ _ _ _).1 (al3h _ _ _ _).2.2
      | exact al1_mk HZr.out HZi.out (by omega) (al3h _ _ _ _).2.2 (al3h _ _ _ _).1 (al3h _ _ _ _).2.1
      | exact al1_mk HZr.out HZi.out (by omega) (al3h _ _ _ _).2.1 (al3h _ _ _ _).2.2 (al3h _ _ _ _).1
      | exact al1_mk HZr.out HZi.out (by omega) (al3h _ _ _ _).2.2 (al3h _ _ _ _).2.1 (al3h _ _ _ _).1
  case rest =>
    obtain ⟨w3, rfl⟩ : ∃ w3, w3 = wc := ⟨_, rfl⟩
    obtain ⟨hr, hi, hf, rfl, ⟨g1, g2, g3⟩, hb3, br, bi, bf⟩ := hcut
    have HC3 := hide (HC2.out.trans (hb3.mono HC2.out.size))
    have l3 := hb3.size
    have p3 := HK0.out w3 HC3.out
    have lbf := bf.lt
    have lbr := br.lt
    have lbi := bi.lt
    obtain ⟨d0, -⟩ := bf.cell 0 (v := .slice (some ⟨hr, 0, none⟩) rn rn) rfl
    obtain ⟨d1, -⟩ := bf.cell 1 (v := .slice (some ⟨hi, 0, none⟩) jn jn) rfl
    obtain ⟨o1, ho1⟩ : ∃ o1, o1 = Obj.cells #[.slice (some ⟨hr, 0, none⟩) rn rn, .slice (some ⟨hi, 0, none⟩) jn jn] 43 := ⟨_, rfl⟩
    obtain ⟨o2, ho2⟩ : ∃ o2, o2 = Obj.cells #[.slice Ao n c, .slice (some ⟨w3.heap.size, 0, none⟩) 1 1] 22 := ⟨_, rfl⟩
    have HB4 := hide (show Below w3.heap.size w3 ((w3.alloc o1).alloc o2) from ((Below.refl _ _).alloc (Nat.le_refl _) _).alloc (by simp only [World.size_alloc]; omega) _)
    have hs4 : ((w3.alloc o1).alloc o2).heap.size = w3.heap.size + 1 + 1 := by simp only [World.size_alloc]
    have hbx1 : Box ((w3.alloc o1).alloc o2) w3.heap.size #[.slice (some ⟨hr, 0, none⟩) rn rn, .slice (some ⟨hi, 0, none⟩) jn jn] 43 := by rw [ho1]; exact (Box.new w3 _ _).alloc _
    have hbx2 : Box ((w3.alloc o1).alloc o2) (w3.heap.size + 1) #[.slice Ao n c, .slice (some ⟨w3.heap.size, 0, none⟩) 1 1] 22 := by
      have t := Box.new (w3.alloc o1) #[.slice Ao n c, .slice (some ⟨w3.heap.size, 0, none⟩) 1 1] 22
      rw [World.size_alloc, ← ho2] at t
      exact t
    have HBW4 := hide (HB1.out.trans ((HC3.out.trans (HB4.out.mono HC3.out.size)).mono HB1.out.size))
    have HCALL := hide (HCN.out (w3.heap.size + 1) Ao (some ⟨w3.heap.size, 0, none⟩) c 1 [⟨List.replicate rn 0, List.replicate jn 0⟩] ((w3.alloc o1).alloc o2) (fun b => b < ((w3.alloc o1).alloc o2).heap.size ∧ b ≠ h5 + 1) (fun b hb => hb.1) hbx2
      (HHS.out _ HBW4.out _ (fun b hb => ⟨by have := HBW4.out.size; omega, by omega⟩))
      ⟨_, 1, rfl, Nat.le_refl _, by omega, fun _ => ⟨w3.heap.size, 0, rfl, ⟨by omega, by omega⟩, fun j x hj => by
        have hj0 : j = 0 := by have := (List.getElem?_eq_some_iff.1 hj).1; simp at this; omega
        subst hj0
        simp at hj
        subst hj
        exact ⟨_, _, ⟨(hbx1.cell 0 (v := .slice (some ⟨hr, 0, none⟩) rn rn) rfl).1, (hbx1.cell 1 (v := .slice (some ⟨hi, 0, none⟩) jn jn) rfl).1⟩, box_ints (br.below HB4.out) (by omega) ⟨by omega, by omega⟩, box_ints (bi.below HB4.out) (by omega) ⟨by omega, by omega⟩⟩⟩⟩ rfl)
    have HY4 := hide ((HX1.out.below HC3.out).below HB4.out)
    clear hb3 br bi bf hs4 hbx1 hbx2
    rw [ho1, ho2] at HCALL HB4 HBW4 HY4
    clear ho1 ho2
    go_upto_region 5 with (go_at_call 25; (with_reducible refine (HCALL.out).mono ?_); rintro e w5 ⟨v5, rfl, hv5, hb5⟩; have HB5 := hide (HBW4.out.trans (hb5.mono HBW4.out.size)); have HV5 := hide hv5; have HY5 := hide (HY4.out.below hb5); have lz5 := hb5.size; clear hb5 hv5)
    obtain ⟨A5, c5, rfl, -, -⟩ := HV5.out.open'
    rw [HLEN.out] at HV5 ⊢
    obtain ⟨z0, f0⟩ := HY5.out.cell 0 (v := .slice none 0 0) rfl
    go_wp2
    have HZ := hide (HY5.out.set 0 (.slice A5 (n + 1) c5))
    have q0 := (HZ.out.cell 0 (v := .slice A5 (n + 1) c5) rfl).1
    have hbz : Below w.heap.size w (w5.setCell ⟨h5 + 1, 0, none⟩ (.slice A5 (n + 1) c5)) := HB5.out.setCell (p := ⟨h5 + 1, 0, none⟩) (by show w.heap.size ≤ h5 + 1; omega) _
    refine bodyPost_ret (v := .tuple #[.agg #[.slice A5 (n + 1) c5], .int .i64 ((n : Int) + 1), .int .i64 0]) (by simp [results, Try.results8, go_sem, q0]) rfl ⟨_, rfl, HV5.out.keep (fun b o hb => World.cell?_setCell_far _ _ _ _ ?_) (fun b hb => ?_), hbz⟩
    · rcases hb with hb | hb
      · have := hb.2
        simpa using fun e => this e.symm
      · have := hb.1
        have : h5 + 1 ≠ b := by
          simp only [World.size_alloc] at this
          omega
        simpa using this
    · rw [World.size_setCell]
      rcases hb with hb | hb
      · have := hb.1; omega
      · exact hb.2
end Go.Proofs.Ytjlndibeaklcdaa
