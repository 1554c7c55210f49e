/- The contract of the reference's Func of layer 4. No condition. -/
import Derived.Test.YthbnbaikdcfbmaaGreatDoorPmTA
set_option linter.unusedSimpArgs false
set_option linter.unusedVariables false
set_option maxHeartbeats 4000000
set_option maxRecDepth 100000
namespace Go.Proofs.YthbnbaikdcfbmaaGreatDoor
open Go.RowKit
def jds (f : FunV) (k b : Int) (i : Nat) : Bool := jdd f.kinds k b && (!decide ((i : Int) < f.params) || valB k)
theorem jij (k : Int) : valB k = inB 0 1 k := by
 unfold valB inB
 rw [Bool.eq_iff_iff]; simp; omega
theorem inB4_iff {lo hi n : Int} : inB lo hi n = true ↔ lo <= n /\ n <= hi := by unfold inB; simp
theorem jj9 {f : FunV} (h : jd9 f = true) : f.kinds.length <= 48 /\ f.base.length = f.kinds.length /\ inB 0 (min 4 (f.kinds.length : Int)) f.params = true /\ inB 0 1 f.result = true /\ inB 1 40 (f.blocks.length : Int) = true /\
  (∀ (i : Nat) k b, f.kinds[i]? = some k -> f.base[i]? = some b -> jds f k b i = true) /\ ∀ b ∈ f.blocks, jbw b = true := by
 unfold jd9 jgf jdh jdm at h
 simp only [Bool.and_eq_true, decide_eq_true_eq, List.all_eq_true] at h
 obtain ⟨⟨⟨h1, h2⟩, h3⟩, ⟨h4, h5⟩, h6, h7, h8⟩ := h
 refine ⟨h2, h1, h4, by rw [<- jij]; exact h6, h7, fun i k b hk hb => ?_, h8⟩
 unfold jds
 simp only [Bool.and_eq_true, Bool.or_eq_true, Bool.not_eq_true', decide_eq_false_iff_not]
 refine ⟨h3 (k, b) (List.mem_of_getElem? (i := i) (List.getElem?_zip_eq_some.2 ⟨hk, hb⟩)), ?_⟩
 by_cases hp : (i : Int) < f.params
 ·right
  exact h5 k (List.mem_of_getElem? (i := i) (by rw [List.getElem?_take_of_lt (by omega)]; exact hk))
 ·exact .inl hp
theorem fun_yes {f : FunV} (h1 : f.kinds.length <= 48) (h2 : f.base.length = f.kinds.length) (h3 : inB 0 (min 4 (f.kinds.length : Int)) f.params = true) (h4 : inB 0 1 f.result = true) (h5 : inB 1 40 (f.blocks.length : Int) = true)
  (h6 : ∀ (i : Nat) k b, f.kinds[i]? = some k -> f.base[i]? = some b -> jds f k b i = true) (h7 : ∀ b ∈ f.blocks, jbw b = true) : jd9 f = true := by
 unfold jd9 jgf jdh jdm
 simp only [Bool.and_eq_true, decide_eq_true_eq, List.all_eq_true]
 refine ⟨⟨⟨h2, h1⟩, fun kb hkb => ?_⟩, ⟨h3, fun k hk => ?_⟩, by rw [jij]; exact h4, h5, h7⟩
 ·obtain ⟨i, hi⟩ := List.mem_iff_getElem?.1 hkb
  obtain ⟨e1, e2⟩ := List.getElem?_zip_eq_some.1 hi
  have := h6 i _ _ e1 e2
  unfold jds at this
  simp only [Bool.and_eq_true] at this
  exact this.1
 ·obtain ⟨i, hi⟩ := List.mem_iff_getElem?.1 hk
  have hlt : i < f.params.toNat := by
   have := (List.getElem?_eq_some_iff.1 hi).1
   rw [List.length_take] at this; omega
  rw [List.getElem?_take_of_lt hlt] at hi
  have hn := (List.getElem?_eq_some_iff.1 hi).1
  have := h6 i k (f.base[i]'(by omega)) hi (List.getElem?_eq_getElem _)
  unfold jds at this
  simp only [Bool.and_eq_true, Bool.or_eq_true, Bool.not_eq_true', decide_eq_false_iff_not] at this
  rcases this.2 with h | h
  ·omega
  ·exact h
theorem ends_of {l : List InsV} (h : ∀ (k : Nat) x, l[k]? = some x -> jcb x.op = decide (k = l.length - 1)) : jdl l = true := by
 unfold jdl
 simp only [Bool.and_eq_true, List.all_eq_true, Bool.not_eq_true']
 constructor
 ·intro x hx
  obtain ⟨i, hi⟩ := List.mem_iff_getElem?.1 hx
  have hlt : i < l.length - 1 := by
   have := (List.getElem?_eq_some_iff.1 hi).1
   rw [List.length_take] at this; omega
  rw [List.getElem?_take_of_lt hlt] at hi
  rw [h i x hi]; simp; omega
 ·intro x hx
  obtain ⟨i, hi⟩ := List.mem_iff_getElem?.1 hx
  rw [List.getElem?_drop] at hi
  have hlt := (List.getElem?_eq_some_iff.1 hi).1
  rw [h _ x hi]; simp; omega
theorem jnr {l : List InsV} {k : Nat} {x : InsV} (h : jdl l = true) (hx : l[k]? = some x) : jcb x.op = decide (k = l.length - 1) := by
 have hk := (List.getElem?_eq_some_iff.1 hx).1
 unfold jdl at h
 simp only [Bool.and_eq_true, List.all_eq_true, Bool.not_eq_true'] at h
 by_cases he : k = l.length - 1
 ·rw [decide_eq_true he]
  exact h.2 x (List.mem_of_getElem? (i := 0) (by rw [List.getElem?_drop, <- he]; simpa using hx))
 ·rw [decide_eq_false he]
  exact h.1 x (List.mem_of_getElem? (i := k) (by rw [List.getElem?_take_of_lt (by omega)]; exact hx))
def varsTo (f : FunV) (n : Nat) : Prop := ∀ (i : Nat) k b, i < n -> f.kinds[i]? = some k -> f.base[i]? = some b -> jds f k b i = true
theorem varsTo.next {f : FunV} {n : Nat} (h : varsTo f n) {k b : Int} (hk : f.kinds[n]? = some k) (hb : f.base[n]? = some b) (ho : jds f k b n = true) : varsTo f (n + 1) := by
 intro i k' b' hi h1 h2
 by_cases he : i = n
 ·subst he
  rw [hk] at h1; rw [hb] at h2
  cases h1; cases h2; exact ho
 ·exact h i k' b' (by omega) h1 h2
theorem jgg {f : FunV} {n : Nat} {k b : Int} (hk : f.kinds[n]? = some k) (hb : f.base[n]? = some b) (ho : jds f k b n = false) : jd9 f = false :=
 Bool.eq_false_iff.2 fun h => by have := (jj9 h).2.2.2.2.2.1 n k b hk hb; rw [ho] at this; cases this
def blksTo (f : FunV) (n : Nat) : Prop := ∀ (i : Nat) b, i < n -> f.blocks[i]? = some b -> jbw b = true
theorem blksTo.next {f : FunV} {n : Nat} (h : blksTo f n) {b : List InsV} (hb : f.blocks[n]? = some b) (ho : jbw b = true) : blksTo f (n + 1) := by
 intro i b' hi h1
 by_cases he : i = n
 ·subst he
  rw [hb] at h1; cases h1; exact ho
 ·exact h i b' (by omega) h1
theorem jsp {f : FunV} {n : Nat} {b : List InsV} (hb : f.blocks[n]? = some b) (ho : jbw b = false) : jd9 f = false :=
 Bool.eq_false_iff.2 fun h => by have := (jj9 h).2.2.2.2.2.2 b (List.mem_of_getElem? hb); rw [ho] at this; cases this
def endsTo (l : List InsV) (n : Nat) : Prop := ∀ (i : Nat) x, i < n -> l[i]? = some x -> jcb x.op = decide (i = l.length - 1)
theorem endsTo.next {l : List InsV} {n : Nat} (h : endsTo l n) {x : InsV} (hx : l[n]? = some x) (ho : jcb x.op = decide (n = l.length - 1)) : endsTo l (n + 1) := by
 intro i x' hi h1
 by_cases he : i = n
 ·subst he
  rw [hx] at h1; cases h1; exact ho
 ·exact h i x' (by omega) h1
theorem jam (n lo hi : Int) (w : World) : Calls Tryz.prog 45 #[.int .i64 n, .int .i64 lo, .int .i64 hi] w fun e w' => e = .returned (.bool (inB lo hi n)) /\ w' = w := (ja6 n lo hi w).mono fun e w' ⟨h1, h2⟩ => ⟨h1, h2.symm⟩
theorem jpn {f : FunV} {k b : Int} {i : Nat} (h : inB 0 2 k = false) : jds f k b i = false := by
 have h2 : ¬ (0 <= k /\ k <= 2) := fun hh => by rw [inB4_iff.2 hh] at h; cases h
 unfold jds jdd
 rw [if_neg (by omega), jij, show inB 0 1 k = false from Bool.eq_false_iff.2 (fun hh => h2 (by have := inB4_iff.1 hh; omega))]
 rfl
theorem jpo {f : FunV} {b : Int} {i : Nat} (h : (i : Int) < f.params) : jds f 2 b i = false := by
 unfold jds
 rw [decide_eq_true h]; simp [valB]
theorem jpm {f : FunV} {b : Int} {i : Nat} (h : ¬ (i : Int) < f.params) : jds f 2 b i = refB f.kinds b := by
 unfold jds jdd
 rw [decide_eq_false h]; simp
theorem jpl {f : FunV} {k b : Int} {i : Nat} (h : inB 0 2 k = true) (hk : k ≠ 2) : jds f k b i = (b == -1) := by
 have hv : valB k = true := by rw [jij]; have := inB4_iff.1 h; exact inB4_iff.2 (by omega)
 unfold jds jdd
 rw [if_neg hk, hv]; simp
theorem js6 (vk vb vs : Value) (f : FunV) (w : World) (B : Nat) (hB : B <= w.heap.size) (hi : FunI w (· < B) vk vb vs f) :
  Calls Tryz.prog 46 #[.agg #[vk, vb, .int .i64 f.params, .int .i64 f.result, vs]] w fun e w' => e = .returned (.bool (jd9 f)) /\ Below w.heap.size w w' := by
 obtain ⟨hk, hb, hs, hrp, hrr⟩ := hi
 obtain ⟨Ak, ck, rfl, hck, hmk⟩ := hk.open'
 obtain ⟨Ab, cb, rfl, hcb, hmb⟩ := hb.open'
 obtain ⟨As, cs, rfl, hcs, hms⟩ := hs.open'
 have HALL := hide (fun h : jd9 f = true => jj9 h)
 obtain ⟨n, hn⟩ := zl f.kinds.length
 obtain ⟨nb, hnb⟩ := zl f.base.length
 obtain ⟨ls, hls⟩ := zl f.blocks.length
 have HYES := hide (@fun_yes f)
 rw [hn] at hk hck HALL HYES ⊢
 rw [hnb] at hb hcb HALL HYES ⊢
 rw [hls] at hs hcs HALL HYES ⊢
 have HK := hide hk; have HBS := hide hb; have HS := hide hs
 have HN := hide hn; have HNB := hide hnb; have HLS := hide hls
 clear hk hb hs hn hnb hls
 by_cases h1 : n <= 48
 case neg =>
  have HF := hide (show jd9 f = false from Bool.eq_false_iff.2 fun h => h1 (HALL.out h).1)
  have hg : 48 < n := by omega
  clear h1
  go_enter Tryz.func46, Tryz.ntmps46
  go_wp2_with (go_at_call 45; refine (ja6 _ _ _ _).mono ?_; rintro e w' ⟨rfl, rfl⟩)
  go_ret
  exact ⟨ja1 HF.out.symm, ja4 w _⟩
 by_cases h2 : nb = n
 case neg =>
  have HF := hide (show jd9 f = false from Bool.eq_false_iff.2 fun h => h2 (HALL.out h).2.1)
  have hg : ((nb : Int) != (n : Int)) = true := by simp; omega
  clear h2
  go_enter Tryz.func46, Tryz.ntmps46
  go_wp2_with (go_at_call 45; refine (ja6 _ _ _ _).mono ?_; rintro e w' ⟨rfl, rfl⟩)
  go_ret
  exact ⟨ja1 HF.out.symm, ja4 w _⟩
 subst h2
 by_cases h3 : inB 0 (min 4 (nb : Int)) f.params = true
 case neg =>
  have HF := hide (show jd9 f = false from Bool.eq_false_iff.2 fun h => h3 (HALL.out h).2.2.1)
  have hg : inB 0 (min 4 (nb : Int)) f.params = false := Bool.eq_false_iff.2 h3
  clear h3
  generalize f.params = fp, f.result = fr at *
  go_enter Tryz.func46, Tryz.ntmps46
  go_wp2_with (go_at_call 45; refine (ja6 _ _ _ _).mono ?_; rintro e w' ⟨rfl, rfl⟩)
  go_ret
  exact ⟨ja1 HF.out.symm, ja4 w _⟩
 by_cases h4 : inB 0 1 f.result = true
 case neg =>
  have HF := hide (show jd9 f = false from Bool.eq_false_iff.2 fun h => h4 (HALL.out h).2.2.2.1)
  have hg : inB 0 1 f.result = false := Bool.eq_false_iff.2 h4
  clear h4
  generalize f.params = fp, f.result = fr at *
  go_enter Tryz.func46, Tryz.ntmps46
  go_wp2_with (go_at_call 45; refine (ja6 _ _ _ _).mono ?_; rintro e w' ⟨rfl, rfl⟩)
  go_ret
  exact ⟨ja1 HF.out.symm, ja4 w _⟩
 by_cases h5 : inB 1 40 (ls : Int) = true
 case neg =>
  have HF := hide (show jd9 f = false from Bool.eq_false_iff.2 fun h => h5 (HALL.out h).2.2.2.2.1)
  have hg : inB 1 40 (ls : Int) = false := Bool.eq_false_iff.2 h5
  clear h5
  generalize f.params = fp, f.result = fr at *
  go_enter Tryz.func46, Tryz.ntmps46
  go_wp2_with (go_at_call 45; refine (ja6 _ _ _ _).mono ?_; rintro e w' ⟨rfl, rfl⟩)
  go_ret
  exact ⟨ja1 HF.out.symm, ja4 w _⟩
 have HY := hide (fun a b => HYES.out h1 rfl h3 h4 h5 a b)
 have hls40 := inB4_iff.1 h5
 have HVO := hide (fun (i : Nat) (b : Int) => @jpo f b i)
 have HVR := hide (fun (i : Nat) (b : Int) => @jpm f b i)
 obtain ⟨fp, hfp⟩ := zl f.params
 rw [hfp] at HVO HVR h3 hrp ⊢
 generalize f.result = fr at *
 clear HYES HALL hfp
 go_enter Tryz.func46, Tryz.ntmps46
 go_upto_region 2 with (fail)
 obtain ⟨w1, hw1⟩ := zr (w.alloc (.cells #[.slice Ak nb ck, .slice Ab nb cb, .int .i64 fp, .int .i64 fr, .slice As ls cs] 52))
 have HX := zx1 hw1 rfl
 have HB1 := zb1 hw1
 rw [<- hw1]
 clear hw1
 have c0 := (HX.out.cell 0 (v := .slice Ak nb ck) rfl).1
 have c1 := (HX.out.cell 1 (v := .slice Ab nb cb) rfl).1
 have c2 := (HX.out.cell 2 (v := .int .i64 fp) rfl).1
 have c3 := (HX.out.cell 3 (v := .int .i64 fr) rfl).1
 have c4 := (HX.out.cell 4 (v := .slice As ls cs) rfl).1
 have l1 := HX.out.lt
 go_wp2_with (go_at_call 45; refine (ja6 _ _ _ _).mono ?_; rintro e w' ⟨rfl, rfl⟩)
 clear c0 c1 c2 c3 c4 h3 h4 h5
 go_loopw [4] (fun i wr => ∃ k : Nat, k <= nb /\ i = .int .i64 k /\ Below w1.heap.size w1 wr /\ Hid (varsTo f k)) (fun i _ => nb - (intOf i).toNat)
 case atStart => exact ⟨0, Nat.zero_le _, rfl, Below.refl _ _, hide (fun i k b h => absurd h (by omega))⟩
 case round =>
  obtain ⟨k, hk, rfl, hb, hto⟩ := hrel
  have hsz := hb.size
  have HBE := hide (HB1.out.trans (hb.mono HB1.out.size))
  have c0 := ((HX.out.below hb).cell 0 (v := .slice Ak nb ck) rfl).1
  have c1 := ((HX.out.below hb).cell 1 (v := .slice Ab nb cb) rfl).1
  have c2 := ((HX.out.below hb).cell 2 (v := .int .i64 fp) rfl).1
  have c4 := ((HX.out.below hb).cell 4 (v := .slice As ls cs) rfl).1
  have l2 := (HX.out.below hb).lt
  by_cases hlt : k < nb
  ·obtain ⟨kv, hkv⟩ : ∃ y, f.kinds[k]? = some y := ⟨_, List.getElem?_eq_getElem (by have := HN.out; omega)⟩
   obtain ⟨bv, hbv⟩ : ∃ y, f.base[k]? = some y := ⟨_, List.getElem?_eq_getElem (by have := HNB.out; omega)⟩
   have HKW := HK.out.keep (up HBE.out hB) (fun _ h => h)
   obtain ⟨b1, o1, rfl, hb1, g1, hr1⟩ := HKW.get hkv
   obtain ⟨b2, o2, rfl, hb2, g2, hr2⟩ := (HBS.out.keep (up HBE.out hB) (fun _ h => h)).get hbv
   have hsw := HBE.out.size
   have hs1 : b1 < wr.heap.size := by omega
   have hs2 : b2 < wr.heap.size := by omega
   have H1 := hide hkv
   have H2 := hide hbv
   have HKW := hide HKW
   clear hkv hbv
   by_cases hin : inB 0 2 kv = true
   case neg =>
    have hin' : inB 0 2 kv = false := Bool.eq_false_iff.2 hin
    have HF := hide (jgg H1.out H2.out (jpn hin'))
    clear hin
    go_wp2_with (go_at_call 45; refine (ja6 _ _ _ _).mono ?_; rintro e w' ⟨rfl, rfl⟩)
    go_ret
    exact ⟨ja1 HF.out.symm, HBE.out⟩
   by_cases hk2 : kv = 2
   ·subst hk2
    by_cases hp : (k : Int) < fp
    ·have HF := hide (jgg H1.out H2.out (HVO.out k bv hp))
     go_wp2_with (go_at_call 45; refine (ja6 _ _ _ _).mono ?_; rintro e w' ⟨rfl, rfl⟩)
     go_ret
     exact ⟨ja1 HF.out.symm, HBE.out⟩
    ·have HR := hide (HVR.out k bv (by omega))
     have hp' : decide ((k : Int) < fp) = false := by simpa using hp
     have e3 : IntKind.i64.wrap ((nb : Int) - 1) = (nb : Int) - 1 := IntWalk.i64_in _ ⟨by omega, by omega⟩
     by_cases hbi : inB 0 ((nb : Int) - 1) bv = true
     ·have hbi2 := inB4_iff.1 hbi
      obtain ⟨v, rfl⟩ : ∃ v : Nat, bv = v := ⟨bv.toNat, by omega⟩
      have hv : v < nb := by omega
      obtain ⟨rv, hrv⟩ : ∃ y, f.kinds[v]? = some y := ⟨_, List.getElem?_eq_getElem (by have := HN.out; omega)⟩
      obtain ⟨b3, o3, hA3, hb3, g3, hr3⟩ := HKW.out.get hrv
      cases hA3
      have HRB := hide (show refB f.kinds (v : Int) = decide (rv = 1) by
       unfold refB
       rw [HN.out, hbi, Int.toNat_natCast, hrv]
       simp)
      clear hrv hbi2
      by_cases hr : rv = 1
      ·subst hr
       have hnx := hide (hto.out.next H1.out H2.out (by rw [HR.out, HRB.out]; simp))
       clear hto hp
       go_wp2_with (go_at_call 45; refine (ja6 _ _ _ _).mono ?_; rintro e w' ⟨rfl, rfl⟩)
       go_quiet ((go_at_call 45; exact Calls.quiet_of_same (jam _ _ _ _)))
       go_wp2
       go_roundw
       case rel => exact ⟨k + 1, by omega, by go_num, ja0 hb _, hnx⟩
       case measure => simp [intOf]; omega
      ·have HF := hide (jgg H1.out H2.out (by rw [HR.out, HRB.out]; simpa using hr))
       have hr' : (rv != 1) = true := by simpa using hr
       clear hr hp hto
       go_wp2_with (go_at_call 45; refine (ja6 _ _ _ _).mono ?_; rintro e w' ⟨rfl, rfl⟩)
       go_quiet ((go_at_call 45; exact Calls.quiet_of_same (jam _ _ _ _)))
       go_wp2
       go_ret
       exact ⟨ja1 HF.out.symm, ja0 HBE.out _⟩
     ·have hbi' : inB 0 ((nb : Int) - 1) bv = false := Bool.eq_false_iff.2 hbi
      have HF := hide (jgg H1.out H2.out (by rw [HR.out]; unfold refB; rw [HN.out, hbi']; rfl))
      clear hbi hp hto
      go_wp2_with (go_at_call 45; refine (ja6 _ _ _ _).mono ?_; rintro e w' ⟨rfl, rfl⟩)
      go_quiet ((go_at_call 45; exact Calls.quiet_of_same (jam _ _ _ _)))
      go_wp2
      go_ret
      exact ⟨ja1 HF.out.symm, ja0 HBE.out _⟩
   ·have HV := hide (jpl (f := f) (b := bv) (i := k) hin hk2)
    have hk2a : (kv == 2) = false := by simpa using hk2
    have hk2b : (kv != 2) = true := by simpa using hk2
    clear hk2
    by_cases hbm : bv = -1
    ·subst hbm
     have hnx := hide (hto.out.next H1.out H2.out (by rw [HV.out]; rfl))
     clear hto
     by_cases hp : (k : Int) < fp
     all_goals
      go_wp2_with (go_at_call 45; refine (ja6 _ _ _ _).mono ?_; rintro e w' ⟨rfl, rfl⟩)
      go_roundw
      case rel => exact ⟨k + 1, by omega, by go_num, hb, hnx⟩
      case measure => simp [intOf]; omega
    ·have HF := hide (jgg H1.out H2.out (by rw [HV.out]; simpa using hbm))
     have hbm' : (bv != -1) = true := by simpa using hbm
     clear hbm hto
     by_cases hp : (k : Int) < fp
     all_goals
      go_wp2_with (go_at_call 45; refine (ja6 _ _ _ _).mono ?_; rintro e w' ⟨rfl, rfl⟩)
      go_ret
      exact ⟨ja1 HF.out.symm, HBE.out⟩
  ·have HVT := hide (show ∀ (i : Nat) k' b', f.kinds[i]? = some k' -> f.base[i]? = some b' -> jds f k' b' i = true from fun i k' b' h1 h2 => hto.out i k' b' (by have := (List.getElem?_eq_some_iff.1 h1).1; have := HN.out; omega) h1 h2)
   obtain ⟨wl, rfl⟩ := zr wr
   clear hto c0 c1 c2
   go_wp2
   go_loop [5] (fun i => ∃ q : Nat, q <= ls /\ i = .int .i64 q /\ Hid (blksTo f q)) (fun i => ls - (intOf i).toNat)
   case atStart => exact ⟨0, Nat.zero_le _, rfl, hide (fun i b h => absurd h (by omega))⟩
   case round =>
    obtain ⟨q, hq, rfl, hbt⟩ := hrel
    by_cases hlq : q < ls
    ·obtain ⟨x, hx⟩ : ∃ x, f.blocks[q]? = some x := ⟨_, List.getElem?_eq_getElem (by have := HLS.out; omega)⟩
     obtain ⟨b1, o1, A1, c1, rfl, hbb1, g0, hx1⟩ := (HS.out.keep (up HBE.out hB) (fun _ h => h)).get hx
     obtain ⟨A1', c1', heq, hc1', hm1'⟩ := hx1.open'
     injection heq with hA0 _ hcs0
     subst hA0
     subst hcs0
     obtain ⟨m, hm⟩ := zl x.length
     rw [hm] at g0 hx1 hc1'
     have hsw := HBE.out.size
     have hs1 : b1 < wl.heap.size := by omega
     have HX1 := hide hx1
     have HXX := hide hx
     have HM := hide hm
     have HBLK := hide (show jbw x = (inB 1 40 (m : Int) && jdl x) by unfold jbw; rw [hm])
     clear hx hx1 hm
     by_cases hin : inB 1 40 (m : Int) = true
     case neg =>
      have hin' : inB 1 40 (m : Int) = false := Bool.eq_false_iff.2 hin
      have HF := hide (jsp HXX.out (by rw [HBLK.out, hin']; rfl))
      clear hin hbt
      go_wp2_with (go_at_call 45; refine (ja6 _ _ _ _).mono ?_; rintro e w' ⟨rfl, rfl⟩)
      go_ret
      exact ⟨ja1 HF.out.symm, HBE.out⟩
     have hin2 := inB4_iff.1 hin
     have hnx := hide (fun he : jdl x = true => hbt.out.next HXX.out (by rw [HBLK.out, hin, he]; rfl))
     clear hbt
     obtain ⟨mp, hmp⟩ : ∃ mp, m = mp + 1 := ⟨m - 1, by omega⟩
     have HMP := hide hmp
     have hmlt : mp < m := by omega
     clear hmp
     go_wp2_with (go_at_call 45; refine (ja6 _ _ _ _).mono ?_; rintro e w' ⟨rfl, rfl⟩)
     clear hin
     go_loop [7] (fun i => ∃ t : Nat, t <= m /\ i = .int .i64 t /\ Hid (endsTo x t)) (fun i => m - (intOf i).toNat)
     case atStart => exact ⟨0, Nat.zero_le _, rfl, hide (fun i b h => absurd h (by omega))⟩
     case round =>
      obtain ⟨t, ht, rfl, hen⟩ := hrel
      by_cases hlm : t < m
      ·obtain ⟨u, hu⟩ : ∃ u, x[t]? = some u := ⟨_, List.getElem?_eq_getElem (by have := HM.out; omega)⟩
       obtain ⟨b2, o2, A2, c2, rfl, hbb2, ⟨i0, -, -, -, -, -, -⟩, -⟩ := HX1.out.get hu
       have hs2 : b2 < wl.heap.size := by omega
       have hwr : IntKind.i64.wrap ((m : Int) - 1) = (mp : Int) := by rw [show (m : Int) - 1 = (mp : Int) by have := HMP.out; omega]; exact IntWalk.i64_in _ ⟨by omega, by omega⟩
       have HL := hide (fun W => jr9 u.op W)
       have HU := hide hu
       have hkb : ((t : Int) == (mp : Int)) = decide (t = x.length - 1) := by
        rw [HM.out, HMP.out, Bool.eq_iff_iff]; simp; omega
       generalize hdl : decide (t = x.length - 1) = dl at *
       have HDL := hide hdl
       by_cases hsame : jcb u.op = dl
       ·have hn2 := hide (hen.out.next HU.out (by rw [hsame, HDL.out]))
        rw [hsame] at HL
        clear hen hu hsame hdl
        cases dl
        all_goals
         go_wp2_with (go_at_call 69; refine (HL.out _).mono ?_; rintro e w' ⟨rfl, rfl⟩)
         go_round
         case rel => exact ⟨t + 1, by omega, by go_num, hn2⟩
         case measure => simp [intOf]; omega
       ·have HF := hide (jsp HXX.out (by
         rw [HBLK.out, Bool.eq_false_iff.2 (show jdl x ≠ true from fun he => hsame (by rw [jnr he HU.out, HDL.out]))]
         exact Bool.and_false _))
        have hl' : jcb u.op = !dl := by cases dl <;> simp_all
        rw [hl'] at HL
        clear hen hu hsame hdl hl'
        cases dl
        all_goals
         simp only [Bool.not_true, Bool.not_false] at HL
         go_wp2_with (go_at_call 69; refine (HL.out _).mono ?_; rintro e w' ⟨rfl, rfl⟩)
         go_ret
         exact ⟨ja1 HF.out.symm, HBE.out⟩
      ·have hbn := hide (hnx.out (ends_of fun i y hy => hen.out i y (by have := (List.getElem?_eq_some_iff.1 hy).1; have := HM.out; omega) hy))
       clear hen
       go_wp2
       go_round
       case rel => exact ⟨q + 1, by omega, by go_num, hbn⟩
       case measure => simp [intOf]; omega
    ·have HF := hide (HY.out HVT.out (fun b hb => by
      obtain ⟨i, hi⟩ := List.mem_iff_getElem?.1 hb
      exact hbt.out i b (by have := (List.getElem?_eq_some_iff.1 hi).1; have := HLS.out; omega) hi))
     clear hbt
     go_wp2
     go_ret
     exact ⟨ja1 HF.out.symm, HBE.out⟩
def jqt (p : List FunV) (x : InsV) : Bool :=
 if x.op = 19 then jbk p x.n x.args.length else if x.op = 1 then inB (-2147483648) 2147483648 x.n else if x.op = 16 then inB (-8) 8 x.n else if x.op = 10 then inB 0 8 x.n && inB 0 8 x.m
 else if x.op = 11 \/ x.op = 12 \/ x.op = 13 \/ x.op = 14 \/ x.op = 15 then inB 0 7 x.n else true
def jls (x : InsV) : List Int := jas x ++ (if ja9 x.op 68 = true then [x.d] else [])
theorem jp9 (f : FunV) (a b : Int) : (jcg f (min a b) && jcg f (max a b)) = (jcg f a && jcg f b) := by
 rw [Bool.eq_iff_iff]
 unfold jcg
 simp only [Bool.and_eq_true, inB4_iff]
 omega
theorem nums_eq (p : List FunV) (f : FunV) (x : InsV) : jc9 p f x = ((jau x).all (jcg f) && jqt p x) := by
 unfold jc9 jqt jau
 by_cases h21 : x.op = 21
 ·simp [h21]
 ·by_cases h22 : x.op = 22
  ·by_cases hnm : x.n = x.m
   ·simp [h22, hnm]
   ·have := jp9 f x.n x.m
    simp [h22, hnm, this]
  ·simp only [h21, h22, false_and, or_self, if_false, List.all_nil, Bool.true_and]
   by_cases h19 : x.op = 19
   ·simp [h19]
   ·by_cases h1 : x.op = 1
    ·simp [h1]
    ·by_cases h16 : x.op = 16
     ·simp [h16]
     ·simp [h19, h1, h16]
theorem may_eq (p : List FunV) (f : FunV) (x : InsV) : jcf p f x = (!(jae x.op).isEmpty && (jdw x && ((jls x).all (jbt f) && ((jau x).all (jcg f) && jqt p x)))) := by
 unfold jcf
 rw [nums_eq]
 have : jel f x = (jls x).all (jbt f) := by
  unfold jel jls
  rw [List.all_append]
  cases ja9 x.op 68 <;> simp [Bool.and_comm]
 rw [this]
end Go.Proofs.YthbnbaikdcfbmaaGreatDoor
