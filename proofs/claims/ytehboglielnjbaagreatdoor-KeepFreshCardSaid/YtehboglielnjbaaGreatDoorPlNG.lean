/- The contract of the reference's Func of layer 4. No condition. -/
import Derived.Test.YtehboglielnjbaaGreatDoorPlTA
import Derived.BigQuiet
set_option linter.unusedSimpArgs false
set_option linter.unusedVariables false
namespace Go.Proofs.YtehboglielnjbaaGreatDoor
open Go.RowKit

def varOk (f : FunV) (k b : Int) (i : Nat) : Bool := baseB4 f.kinds k b && (!decide ((i : Int) < f.params) || valB k)
theorem valB_in (k : Int) : valB k = inB 0 1 k := by
  unfold valB inB
  rw [Bool.eq_iff_iff]; simp; omega
theorem inB4_iff {lo hi n : Int} : inB lo hi n = true ↔ lo ≤ n ∧ n ≤ hi := by unfold inB; simp
theorem fun_all {f : FunV} (h : funB4 f = true) : f.kinds.length ≤ 48 ∧ f.base.length = f.kinds.length ∧ inB 0 (min 4 (f.kinds.length : Int)) f.params = true ∧ inB 0 1 f.result = true ∧ inB 1 40 (f.blocks.length : Int) = true ∧
    (∀ (i : Nat) k b, f.kinds[i]? = some k → f.base[i]? = some b → varOk f k b i = true) ∧ ∀ b ∈ f.blocks, blockB4 b = true := by
  unfold funB4 varsB4 paramsB4 blocksB4 at h
  simp only [Bool.and_eq_true, decide_eq_true_eq, List.all_eq_true] at h
  obtain ⟨⟨⟨h1, h2⟩, h3⟩, ⟨h4, h5⟩, h6, h7, h8⟩ := h
  refine ⟨h2, h1, h4, by rw [← valB_in]; exact h6, h7, fun i k b hk hb => ?_, h8⟩
  unfold varOk
  simp only [Bool.and_eq_true, Bool.or_eq_true, Bool.not_eq_true', decide_eq_false_iff_not]
  refine ⟨h3 (k, b) (List.mem_of_getElem? (i := i) (List.getElem?_zip_eq_some.2 ⟨hk, hb⟩)), ?_⟩
  by_cases hp : (i : Int) < f.params
  · right
    exact h5 k (List.mem_of_getElem? (i := i) (by rw [List.getElem?_take_of_lt (by omega)]; exact hk))
  · exact .inl hp
theorem fun_yes {f : FunV} (h1 : f.kinds.length ≤ 48) (h2 : f.base.length = f.kinds.length) (h3 : inB 0 (min 4 (f.kinds.length : Int)) f.params = true) (h4 : inB 0 1 f.result = true) (h5 : inB 1 40 (f.blocks.length : Int) = true)
    (h6 : ∀ (i : Nat) k b, f.kinds[i]? = some k → f.base[i]? = some b → varOk f k b i = true) (h7 : ∀ b ∈ f.blocks, blockB4 b = true) : funB4 f = true := by
  unfold funB4 varsB4 paramsB4 blocksB4
  simp only [Bool.and_eq_true, decide_eq_true_eq, List.all_eq_true]
  refine ⟨⟨⟨h2, h1⟩, fun kb hkb => ?_⟩, ⟨h3, fun k hk => ?_⟩, by rw [valB_in]; exact h4, h5, h7⟩
  · obtain ⟨i, hi⟩ := List.mem_iff_getElem?.1 hkb
    obtain ⟨e1, e2⟩ := List.getElem?_zip_eq_some.1 hi
    have := h6 i _ _ e1 e2
    unfold varOk at this
    simp only [Bool.and_eq_true] at this
    exact this.1
  · obtain ⟨i, hi⟩ := List.mem_iff_getElem?.1 hk
    have hlt : i < f.params.toNat := by
      have := (List.getElem?_eq_some_iff.1 hi).1
      rw [List.length_take] at this; omega
    rw [List.getElem?_take_of_lt hlt] at hi
    have hn := (List.getElem?_eq_some_iff.1 hi).1
    have := h6 i k (f.base[i]'(by omega)) hi (List.getElem?_eq_getElem _)
    unfold varOk at this
    simp only [Bool.and_eq_true, Bool.or_eq_true, Bool.not_eq_true', decide_eq_false_iff_not] at this
    rcases this.2 with h | h
    · omega
    · exact h
theorem ends_of {l : List InsV} (h : ∀ (k : Nat) x, l[k]? = some x → lastB x.op = decide (k = l.length - 1)) : endsB l = true := by
  unfold endsB
  simp only [Bool.and_eq_true, List.all_eq_true, Bool.not_eq_true']
  constructor
  · intro x hx
    obtain ⟨i, hi⟩ := List.mem_iff_getElem?.1 hx
    have hlt : i < l.length - 1 := by
      have := (List.getElem?_eq_some_iff.1 hi).1
      rw [List.length_take] at this; omega
    rw [List.getElem?_take_of_lt hlt] at hi
    rw [h i x hi]; simp; omega
  · intro x hx
    obtain ⟨i, hi⟩ := List.mem_iff_getElem?.1 hx
    rw [List.getElem?_drop] at hi
    have hlt := (List.getElem?_eq_some_iff.1 hi).1
    rw [h _ x hi]; simp; omega
theorem ends_at4 {l : List InsV} {k : Nat} {x : InsV} (h : endsB l = true) (hx : l[k]? = some x) : lastB x.op = decide (k = l.length - 1) := by
  have hk := (List.getElem?_eq_some_iff.1 hx).1
  unfold endsB at h
  simp only [Bool.and_eq_true, List.all_eq_true, Bool.not_eq_true'] at h
  by_cases he : k = l.length - 1
  · rw [decide_eq_true he]
    exact h.2 x (List.mem_of_getElem? (i := 0) (by rw [List.getElem?_drop, ← he]; simpa using hx))
  · rw [decide_eq_false he]
    exact h.1 x (List.mem_of_getElem? (i := k) (by rw [List.getElem?_take_of_lt (by omega)]; exact hx))
def varsTo (f : FunV) (n : Nat) : Prop := ∀ (i : Nat) k b, i < n → f.kinds[i]? = some k → f.base[i]? = some b → varOk f k b i = true
theorem varsTo.next {f : FunV} {n : Nat} (h : varsTo f n) {k b : Int} (hk : f.kinds[n]? = some k) (hb : f.base[n]? = some b) (ho : varOk f k b n = true) : varsTo f (n + 1) := by
  intro i k' b' hi h1 h2
  by_cases he : i = n
  · subst he
    rw [hk] at h1; rw [hb] at h2
    cases h1; cases h2; exact ho
  · exact h i k' b' (by omega) h1 h2
theorem var_bad {f : FunV} {n : Nat} {k b : Int} (hk : f.kinds[n]? = some k) (hb : f.base[n]? = some b) (ho : varOk f k b n = false) : funB4 f = false :=
  Bool.eq_false_iff.2 fun h => by have := (fun_all h).2.2.2.2.2.1 n k b hk hb; rw [ho] at this; cases this
def blksTo (f : FunV) (n : Nat) : Prop := ∀ (i : Nat) b, i < n → f.blocks[i]? = some b → blockB4 b = true
theorem blksTo.next {f : FunV} {n : Nat} (h : blksTo f n) {b : List InsV} (hb : f.blocks[n]? = some b) (ho : blockB4 b = true) : blksTo f (n + 1) := by
  intro i b' hi h1
  by_cases he : i = n
  · subst he
    rw [hb] at h1; cases h1; exact ho
  · exact h i b' (by omega) h1
theorem blk_bad {f : FunV} {n : Nat} {b : List InsV} (hb : f.blocks[n]? = some b) (ho : blockB4 b = false) : funB4 f = false :=
  Bool.eq_false_iff.2 fun h => by have := (fun_all h).2.2.2.2.2.2 b (List.mem_of_getElem? hb); rw [ho] at this; cases this
def endsTo (l : List InsV) (n : Nat) : Prop := ∀ (i : Nat) x, i < n → l[i]? = some x → lastB x.op = decide (i = l.length - 1)
theorem endsTo.next {l : List InsV} {n : Nat} (h : endsTo l n) {x : InsV} (hx : l[n]? = some x) (ho : lastB x.op = decide (n = l.length - 1)) : endsTo l (n + 1) := by
  intro i x' hi h1
  by_cases he : i = n
  · subst he
    rw [hx] at h1; cases h1; exact ho
  · exact h i x' (by omega) h1
end Go.Proofs.YtehboglielnjbaaGreatDoor
namespace Go.Proofs.YtehboglielnjbaaGreatDoor
open Go.RowKit

theorem within4_quiet (n lo hi : Int) (w : World) : Calls Tryz.prog 44 #[.int .i64 n, .int .i64 lo, .int .i64 hi] w fun e w' => e = .returned (.bool (inB lo hi n)) ∧ w' = w := (within4_any n lo hi w).mono fun e w' ⟨h1, h2⟩ => ⟨h1, h2.symm⟩
theorem varOk_out {f : FunV} {k b : Int} {i : Nat} (h : inB 0 2 k = false) : varOk f k b i = false := by
  have h2 : ¬ (0 ≤ k ∧ k ≤ 2) := fun hh => by rw [inB4_iff.2 hh] at h; cases h
  unfold varOk baseB4
  rw [if_neg (by omega), valB_in, show inB 0 1 k = false from Bool.eq_false_iff.2 (fun hh => h2 (by have := inB4_iff.1 hh; omega))]
  rfl
theorem varOk_der {f : FunV} {b : Int} {i : Nat} (h : (i : Int) < f.params) : varOk f 2 b i = false := by
  unfold varOk
  rw [decide_eq_true h]; simp [valB]
theorem varOk_ref {f : FunV} {b : Int} {i : Nat} (h : ¬ (i : Int) < f.params) : varOk f 2 b i = refB f.kinds b := by
  unfold varOk baseB4
  rw [decide_eq_false h]; simp
theorem varOk_val {f : FunV} {k b : Int} {i : Nat} (h : inB 0 2 k = true) (hk : k ≠ 2) : varOk f k b i = (b == -1) := by
  have hv : valB k = true := by rw [valB_in]; have := inB4_iff.1 h; exact inB4_iff.2 (by omega)
  unfold varOk baseB4
  rw [if_neg hk, hv]; simp
set_option maxHeartbeats 4000000 in
set_option maxRecDepth 100000 in
theorem func4_any (vk vb vs : Value) (f : FunV) (w : World) (B : Nat) (hB : B ≤ w.heap.size) (hi : FunI w (· < B) vk vb vs f) :
    Calls Tryz.prog 45 #[.agg #[vk, vb, .int .i64 f.params, .int .i64 f.result, vs]] w fun e w' => e = .returned (.bool (funB4 f)) ∧ Below w.heap.size w w' := by
  obtain ⟨hk, hb, hs, hrp, hrr⟩ := hi
  obtain ⟨Ak, ck, rfl, hck, hmk⟩ := hk.open'
  obtain ⟨Ab, cb, rfl, hcb, hmb⟩ := hb.open'
  obtain ⟨As, cs, rfl, hcs, hms⟩ := hs.open'
  have HALL := hide (fun h : funB4 f = true => fun_all h)
  obtain ⟨n, hn⟩ : ∃ n, f.kinds.length = n := ⟨_, rfl⟩
  obtain ⟨nb, hnb⟩ : ∃ nb, f.base.length = nb := ⟨_, rfl⟩
  obtain ⟨ls, hls⟩ : ∃ ls, f.blocks.length = ls := ⟨_, rfl⟩
  have HYES := hide (@fun_yes f)
  rw [hn] at hk hck HALL HYES ⊢
  rw [hnb] at hb hcb HALL HYES ⊢
  rw [hls] at hs hcs HALL HYES ⊢
  have HK := hide hk; have HBS := hide hb; have HS := hide hs
  have HN := hide hn; have HNB := hide hnb; have HLS := hide hls
  clear hk hb hs hn hnb hls
  by_cases h1 : n ≤ 48
  case neg =>
    have HF := hide (show funB4 f = false from Bool.eq_false_iff.2 fun h => h1 (HALL.out h).1)
    have hg : 48 < n := by omega
    clear h1
    go_enter Tryz.func45, Tryz.ntmps45
    go_wp2_with (go_at_call 44; refine (within4_any _ _ _ _).mono ?_; rintro e w' ⟨rfl, rfl⟩)
    go_ret
    exact ⟨ret_bool HF.out.symm, alloc1 w _⟩
  by_cases h2 : nb = n
  case neg =>
    have HF := hide (show funB4 f = false from Bool.eq_false_iff.2 fun h => h2 (HALL.out h).2.1)
    have hg : ((nb : Int) != (n : Int)) = true := by simp; omega
    clear h2
    go_enter Tryz.func45, Tryz.ntmps45
    go_wp2_with (go_at_call 44; refine (within4_any _ _ _ _).mono ?_; rintro e w' ⟨rfl, rfl⟩)
    go_ret
    exact ⟨ret_bool HF.out.symm, alloc1 w _⟩
  subst h2
  by_cases h3 : inB 0 (min 4 (nb : Int)) f.params = true
  case neg =>
    have HF := hide (show funB4 f = false from Bool.eq_false_iff.2 fun h => h3 (HALL.out h).2.2.1)
    have hg : inB 0 (min 4 (nb : Int)) f.params = false := Bool.eq_false_iff.2 h3
    clear h3
    generalize f.params = fp, f.result = fr at *
    go_enter Tryz.func45, Tryz.ntmps45
    go_wp2_with (go_at_call 44; refine (within4_any _ _ _ _).mono ?_; rintro e w' ⟨rfl, rfl⟩)
    go_ret
    exact ⟨ret_bool HF.out.symm, alloc1 w _⟩
  by_cases h4 : inB 0 1 f.result = true
  case neg =>
    have HF := hide (show funB4 f = false from Bool.eq_false_iff.2 fun h => h4 (HALL.out h).2.2.2.1)
    have hg : inB 0 1 f.result = false := Bool.eq_false_iff.2 h4
    clear h4
    generalize f.params = fp, f.result = fr at *
    go_enter Tryz.func45, Tryz.ntmps45
    go_wp2_with (go_at_call 44; refine (within4_any _ _ _ _).mono ?_; rintro e w' ⟨rfl, rfl⟩)
    go_ret
    exact ⟨ret_bool HF.out.symm, alloc1 w _⟩
  by_cases h5 : inB 1 40 (ls : Int) = true
  case neg =>
    have HF := hide (show funB4 f = false from Bool.eq_false_iff.2 fun h => h5 (HALL.out h).2.2.2.2.1)
    have hg : inB 1 40 (ls : Int) = false := Bool.eq_false_iff.2 h5
    clear h5
    generalize f.params = fp, f.result = fr at *
    go_enter Tryz.func45, Tryz.ntmps45
    go_wp2_with (go_at_call 44; refine (within4_any _ _ _ _).mono ?_; rintro e w' ⟨rfl, rfl⟩)
    go_ret
    exact ⟨ret_bool HF.out.symm, alloc1 w _⟩
  have HY := hide (fun a b => HYES.out h1 rfl h3 h4 h5 a b)
  have hls40 := inB4_iff.1 h5
  have HVO := hide (fun (i : Nat) (b : Int) => @varOk_der f b i)
  have HVR := hide (fun (i : Nat) (b : Int) => @varOk_ref f b i)
  obtain ⟨fp, hfp⟩ : ∃ fp, f.params = fp := ⟨_, rfl⟩
  rw [hfp] at HVO HVR h3 hrp ⊢
  generalize f.result = fr at *
  clear HYES HALL hfp
  go_enter Tryz.func45, Tryz.ntmps45
  go_upto_region 2 with (fail)
  obtain ⟨w1, hw1⟩ : ∃ w1, w1 = w.alloc (.cells #[.slice Ak nb ck, .slice Ab nb cb, .int .i64 fp, .int .i64 fr, .slice As ls cs] 32) := ⟨_, rfl⟩
  have HX := hide (show Box w1 w.heap.size #[.slice Ak nb ck, .slice Ab nb cb, .int .i64 fp, .int .i64 fr, .slice As ls cs] 32 by rw [hw1]; exact Box.new w _ _)
  have HB1 := hide (show Below w.heap.size w w1 by rw [hw1]; exact alloc1 w _)
  rw [← hw1]
  clear hw1
  have c0 := (HX.out.cell 0 (v := .slice Ak nb ck) rfl).1
  have c1 := (HX.out.cell 1 (v := .slice Ab nb cb) rfl).1
  have c2 := (HX.out.cell 2 (v := .int .i64 fp) rfl).1
  have c3 := (HX.out.cell 3 (v := .int .i64 fr) rfl).1
  have c4 := (HX.out.cell 4 (v := .slice As ls cs) rfl).1
  have l1 := HX.out.lt
  go_wp2_with (go_at_call 44; refine (within4_any _ _ _ _).mono ?_; rintro e w' ⟨rfl, rfl⟩)
  clear c0 c1 c2 c3 c4 h3 h4 h5
  go_loopw [4] (fun i wr => ∃ k : Nat, k ≤ nb ∧ i = .int .i64 k ∧ Below w1.heap.size w1 wr ∧ Hid (varsTo f k)) (fun i _ => nb - (intOf i).toNat)
  case atStart => exact ⟨0, Nat.zero_le _, rfl, Below.refl _ _, hide (fun i k b h => absurd h (by omega))⟩
  case round =>
    obtain ⟨k, hk, rfl, hb, hto⟩ := hrel
    have hsz := hb.size
    have HBE := hide (HB1.out.trans (hb.mono HB1.out.size))
    have c0 := ((HX.out.below hb).cell 0 (v := .slice Ak nb ck) rfl).1
    have c1 := ((HX.out.below hb).cell 1 (v := .slice Ab nb cb) rfl).1
    have c2 := ((HX.out.below hb).cell 2 (v := .int .i64 fp) rfl).1
    have c4 := ((HX.out.below hb).cell 4 (v := .slice As ls cs) rfl).1
    have l2 := (HX.out.below hb).lt
    by_cases hlt : k < nb
    · obtain ⟨kv, hkv⟩ : ∃ y, f.kinds[k]? = some y := ⟨_, List.getElem?_eq_getElem (by have := HN.out; omega)⟩
      obtain ⟨bv, hbv⟩ : ∃ y, f.base[k]? = some y := ⟨_, List.getElem?_eq_getElem (by have := HNB.out; omega)⟩
      have HKW := HK.out.keep (up HBE.out hB) (fun _ h => h)
      obtain ⟨b1, o1, rfl, hb1, g1, hr1⟩ := HKW.get hkv
      obtain ⟨b2, o2, rfl, hb2, g2, hr2⟩ := (HBS.out.keep (up HBE.out hB) (fun _ h => h)).get hbv
      have hsw := HBE.out.size
      have hs1 : b1 < wr.heap.size := by omega
      have hs2 : b2 < wr.heap.size := by omega
      have H1 := hide hkv
      have H2 := hide hbv
      have HKW := hide HKW
      clear hkv hbv
      by_cases hin : inB 0 2 kv = true
      case neg =>
        have hin' : inB 0 2 kv = false := Bool.eq_false_iff.2 hin
        have HF := hide (var_bad H1.out H2.out (varOk_out hin'))
        clear hin
        go_wp2_with (go_at_call 44; refine (within4_any _ _ _ _).mono ?_; rintro e w' ⟨rfl, rfl⟩)
        go_ret
        exact ⟨ret_bool HF.out.symm, HBE.out⟩
      by_cases hk2 : kv = 2
      · subst hk2
        by_cases hp : (k : Int) < fp
        · have HF := hide (var_bad H1.out H2.out (HVO.out k bv hp))
          go_wp2_with (go_at_call 44; refine (within4_any _ _ _ _).mono ?_; rintro e w' ⟨rfl, rfl⟩)
          go_ret
          exact ⟨ret_bool HF.out.symm, HBE.out⟩
        · have HR := hide (HVR.out k bv (by omega))
          have hp' : decide ((k : Int) < fp) = false := by simpa using hp
          have e3 : IntKind.i64.wrap ((nb : Int) - 1) = (nb : Int) - 1 := IntWalk.i64_in _ ⟨by omega, by omega⟩
          by_cases hbi : inB 0 ((nb : Int) - 1) bv = true
          · have hbi2 := inB4_iff.1 hbi
            obtain ⟨v, rfl⟩ : ∃ v : Nat, bv = v := ⟨bv.toNat, by omega⟩
            have hv : v < nb := by omega
            obtain ⟨rv, hrv⟩ : ∃ y, f.kinds[v]? = some y := ⟨_, List.getElem?_eq_getElem (by have := HN.out; omega)⟩
            obtain ⟨b3, o3, hA3, hb3, g3, hr3⟩ := HKW.out.get hrv
            cases hA3
            have HRB := hide (show refB f.kinds (v : Int) = decide (rv = 1) by
              unfold refB
              rw [HN.out, hbi, Int.toNat_natCast, hrv]
              simp)
            clear hrv hbi2
            by_cases hr : rv = 1
            · subst hr
              have hnx := hide (hto.out.next H1.out H2.out (by rw [HR.out, HRB.out]; simp))
              clear hto hp
              go_wp2_with (go_at_call 44; refine (within4_any _ _ _ _).mono ?_; rintro e w' ⟨rfl, rfl⟩)
              go_quiet ((go_at_call 44; exact Calls.quiet_of_same (within4_quiet _ _ _ _)))
              go_wp2
              go_roundw
              case rel => exact ⟨k + 1, by omega, by go_num, below_drewN hb _, hnx⟩
              case measure => simp [intOf]; omega
            · have HF := hide (var_bad H1.out H2.out (by rw [HR.out, HRB.out]; simpa using hr))
              have hr' : (rv != 1) = true := by simpa using hr
              clear hr hp hto
              go_wp2_with (go_at_call 44; refine (within4_any _ _ _ _).mono ?_; rintro e w' ⟨rfl, rfl⟩)
              go_quiet ((go_at_call 44; exact Calls.quiet_of_same (within4_quiet _ _ _ _)))
              go_wp2
              go_ret
              exact ⟨ret_bool HF.out.symm, below_drewN HBE.out _⟩
          · have hbi' : inB 0 ((nb : Int) - 1) bv = false := Bool.eq_false_iff.2 hbi
            have HF := hide (var_bad H1.out H2.out (by rw [HR.out]; unfold refB; rw [HN.out, hbi']; rfl))
            clear hbi hp hto
            go_wp2_with (go_at_call 44; refine (within4_any _ _ _ _).mono ?_; rintro e w' ⟨rfl, rfl⟩)
            go_quiet ((go_at_call 44; exact Calls.quiet_of_same (within4_quiet _ _ _ _)))
            go_wp2
            go_ret
            exact ⟨ret_bool HF.out.symm, below_drewN HBE.out _⟩
      · have HV := hide (varOk_val (f := f) (b := bv) (i := k) hin hk2)
        have hk2a : (kv == 2) = false := by simpa using hk2
        have hk2b : (kv != 2) = true := by simpa using hk2
        clear hk2
        by_cases hbm : bv = -1
        · subst hbm
          have hnx := hide (hto.out.next H1.out H2.out (by rw [HV.out]; rfl))
          clear hto
          by_cases hp : (k : Int) < fp
          all_goals
            go_wp2_with (go_at_call 44; refine (within4_any _ _ _ _).mono ?_; rintro e w' ⟨rfl, rfl⟩)
            go_roundw
            case rel => exact ⟨k + 1, by omega, by go_num, hb, hnx⟩
            case measure => simp [intOf]; omega
        · have HF := hide (var_bad H1.out H2.out (by rw [HV.out]; simpa using hbm))
          have hbm' : (bv != -1) = true := by simpa using hbm
          clear hbm hto
          by_cases hp : (k : Int) < fp
          all_goals
            go_wp2_with (go_at_call 44; refine (within4_any _ _ _ _).mono ?_; rintro e w' ⟨rfl, rfl⟩)
            go_ret
            exact ⟨ret_bool HF.out.symm, HBE.out⟩
    · have HVT := hide (show ∀ (i : Nat) k' b', f.kinds[i]? = some k' → f.base[i]? = some b' → varOk f k' b' i = true from fun i k' b' h1 h2 => hto.out i k' b' (by have := (List.getElem?_eq_some_iff.1 h1).1; have := HN.out; omega) h1 h2)
      obtain ⟨wl, rfl⟩ : ∃ wl, wl = wr := ⟨_, rfl⟩
      clear hto c0 c1 c2
      go_wp2
      go_loop [5] (fun i => ∃ q : Nat, q ≤ ls ∧ i = .int .i64 q ∧ Hid (blksTo f q)) (fun i => ls - (intOf i).toNat)
      case atStart => exact ⟨0, Nat.zero_le _, rfl, hide (fun i b h => absurd h (by omega))⟩
      case round =>
        obtain ⟨q, hq, rfl, hbt⟩ := hrel
        by_cases hlq : q < ls
        · obtain ⟨x, hx⟩ : ∃ x, f.blocks[q]? = some x := ⟨_, List.getElem?_eq_getElem (by have := HLS.out; omega)⟩
          obtain ⟨b1, o1, A1, c1, rfl, hbb1, g0, hx1⟩ := (HS.out.keep (up HBE.out hB) (fun _ h => h)).get hx
          obtain ⟨A1', c1', heq, hc1', hm1'⟩ := hx1.open'
          injection heq with hA0 _ hcs0
          subst hA0
          subst hcs0
          obtain ⟨m, hm⟩ : ∃ m, x.length = m := ⟨_, rfl⟩
          rw [hm] at g0 hx1 hc1'
          have hsw := HBE.out.size
          have hs1 : b1 < wl.heap.size := by omega
          have HX1 := hide hx1
          have HXX := hide hx
          have HM := hide hm
          have HBLK := hide (show blockB4 x = (inB 1 40 (m : Int) && endsB x) by unfold blockB4; rw [hm])
          clear hx hx1 hm
          by_cases hin : inB 1 40 (m : Int) = true
          case neg =>
            have hin' : inB 1 40 (m : Int) = false := Bool.eq_false_iff.2 hin
            have HF := hide (blk_bad HXX.out (by rw [HBLK.out, hin']; rfl))
            clear hin hbt
            go_wp2_with (go_at_call 44; refine (within4_any _ _ _ _).mono ?_; rintro e w' ⟨rfl, rfl⟩)
            go_ret
            exact ⟨ret_bool HF.out.symm, HBE.out⟩
          have hin2 := inB4_iff.1 hin
          have hnx := hide (fun he : endsB x = true => hbt.out.next HXX.out (by rw [HBLK.out, hin, he]; rfl))
          clear hbt
          obtain ⟨mp, hmp⟩ : ∃ mp, m = mp + 1 := ⟨m - 1, by omega⟩
          have HMP := hide hmp
          have hmlt : mp < m := by omega
          clear hmp
          go_wp2_with (go_at_call 44; refine (within4_any _ _ _ _).mono ?_; rintro e w' ⟨rfl, rfl⟩)
          clear hin
          go_loop [7] (fun i => ∃ t : Nat, t ≤ m ∧ i = .int .i64 t ∧ Hid (endsTo x t)) (fun i => m - (intOf i).toNat)
          case atStart => exact ⟨0, Nat.zero_le _, rfl, hide (fun i b h => absurd h (by omega))⟩
          case round =>
            obtain ⟨t, ht, rfl, hen⟩ := hrel
            by_cases hlm : t < m
            · obtain ⟨u, hu⟩ : ∃ u, x[t]? = some u := ⟨_, List.getElem?_eq_getElem (by have := HM.out; omega)⟩
              obtain ⟨b2, o2, A2, c2, rfl, hbb2, ⟨i0, -, -, -, -, -, -⟩, -⟩ := HX1.out.get hu
              have hs2 : b2 < wl.heap.size := by omega
              have hwr : IntKind.i64.wrap ((m : Int) - 1) = (mp : Int) := by rw [show (m : Int) - 1 = (mp : Int) by have := HMP.out; omega]; exact IntWalk.i64_in _ ⟨by omega, by omega⟩
              have HL := hide (fun W => last4_any u.op W)
              have HU := hide hu
              have hkb : ((t : Int) == (mp : Int)) = decide (t = x.length - 1) := by
                rw [HM.out, HMP.out, Bool.eq_iff_iff]; simp; omega
              generalize hdl : decide (t = x.length - 1) = dl at *
              have HDL := hide hdl
              by_cases hsame : lastB u.op = dl
              · have hn2 := hide (hen.out.next HU.out (by rw [hsame, HDL.out]))
                rw [hsame] at HL
                clear hen hu hsame hdl
                cases dl
                all_goals
                  go_wp2_with (go_at_call 71; refine (HL.out _).mono ?_; rintro e w' ⟨rfl, rfl⟩)
                  go_round
                  case rel => exact ⟨t + 1, by omega, by go_num, hn2⟩
                  case measure => simp [intOf]; omega
              · have HF := hide (blk_bad HXX.out (by
                  rw [HBLK.out, Bool.eq_false_iff.2 (show endsB x ≠ true from fun he => hsame (by rw [ends_at4 he HU.out, HDL.out]))]
                  exact Bool.and_false _))
                have hl' : lastB u.op = !dl := by cases dl <;> simp_all
                rw [hl'] at HL
                clear hen hu hsame hdl hl'
                cases dl
                all_goals
                  simp only [Bool.not_true, Bool.not_false] at HL
                  go_wp2_with (go_at_call 71; refine (HL.out _).mono ?_; rintro e w' ⟨rfl, rfl⟩)
                  go_ret
                  exact ⟨ret_bool HF.out.symm, HBE.out⟩
            · have hbn := hide (hnx.out (ends_of fun i y hy => hen.out i y (by have := (List.getElem?_eq_some_iff.1 hy).1; have := HM.out; omega) hy))
              clear hen
              go_wp2
              go_round
              case rel => exact ⟨q + 1, by omega, by go_num, hbn⟩
              case measure => simp [intOf]; omega
        · have HF := hide (HY.out HVT.out (fun b hb => by
            obtain ⟨i, hi⟩ := List.mem_iff_getElem?.1 hb
            exact hbt.out i b (by have := (List.getElem?_eq_some_iff.1 hi).1; have := HLS.out; omega) hi))
          clear hbt
          go_wp2
          go_ret
          exact ⟨ret_bool HF.out.symm, HBE.out⟩
end Go.Proofs.YtehboglielnjbaaGreatDoor
namespace Go.Proofs.YtehboglielnjbaaGreatDoor
open Go.RowKit

def numsR (p : List FunV) (x : InsV) : Bool :=
  if x.op = 19 then calleeB p x.n x.args.length else if x.op = 1 then inB (-2147483648) 2147483648 x.n else if x.op = 16 then inB (-8) 8 x.n else if x.op = 10 then inB 0 8 x.n && inB 0 8 x.m
  else if x.op = 11 ∨ x.op = 12 ∨ x.op = 13 ∨ x.op = 14 ∨ x.op = 15 then inB 0 7 x.n else true
def usesD (x : InsV) : List Int := usesL x ++ (if hasB4 x.op 68 = true then [x.d] else [])
theorem blk_minmax (f : FunV) (a b : Int) : (inBlk f (min a b) && inBlk f (max a b)) = (inBlk f a && inBlk f b) := by
  rw [Bool.eq_iff_iff]
  unfold inBlk
  simp only [Bool.and_eq_true, inB4_iff]
  omega
theorem nums_eq (p : List FunV) (f : FunV) (x : InsV) : numsB p f x = ((nextL x).all (inBlk f) && numsR p x) := by
  unfold numsB numsR nextL
  by_cases h21 : x.op = 21
  · simp [h21]
  · by_cases h22 : x.op = 22
    · by_cases hnm : x.n = x.m
      · simp [h22, hnm]
      · have := blk_minmax f x.n x.m
        simp [h22, hnm, this]
    · simp only [h21, h22, false_and, or_self, if_false, List.all_nil, Bool.true_and]
      by_cases h19 : x.op = 19
      · simp [h19]
      · by_cases h1 : x.op = 1
        · simp [h1]
        · by_cases h16 : x.op = 16
          · simp [h16]
          · simp [h19, h1, h16]
theorem may_eq (p : List FunV) (f : FunV) (x : InsV) : mayB4 p f x = (!(partsN x.op).isEmpty && (onlyB4 x && ((usesD x).all (inVar f) && ((nextL x).all (inBlk f) && numsR p x)))) := by
  unfold mayB4
  rw [nums_eq]
  have : varsInB f x = (usesD x).all (inVar f) := by
    unfold varsInB usesD
    rw [List.all_append]
    cases hasB4 x.op 68 <;> simp [Bool.and_comm]
  rw [this]
end Go.Proofs.YtehboglielnjbaaGreatDoor
