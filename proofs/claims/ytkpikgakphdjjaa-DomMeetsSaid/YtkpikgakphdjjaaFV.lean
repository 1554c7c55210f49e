/- The contract of flow.walked. Condition: what comes next is there; there is a first block. -/
import Derived.Test.YtkpikgakphdjjaaFS
import Derived.Test.YtkpikgakphdjjaaMD
import Derived.Deep.LoopGhost
set_option linter.unusedSimpArgs false
set_option linter.unusedVariables false
namespace Go.Proofs.Ytkpikgakphdjjaa
open Go.RowKit

theorem info_bool : (Try.prog.info? 4).map (fun i => (i.zero, i.size, i.bytes)) = some (some (.bool false), 1, 1) := by kernel_rfl
def WLoop (w1 : World) (base hw bm : Nat) (f : FunV) (fk fb fs : Value) (mF : List Bool) (lF : List Int) (k : Nat) (wr : World) : Prop :=
  ∃ m os l vo vl ov, k = walkM m os ∧ WalkP wr base hw bm f.blocks.length fk fb f.params f.result fs m os l vo vl ov ∧ FinS f os.reverse m l mF lF ∧ os.length + l.length + m.count false = f.blocks.length ∧ (∀ q ∈ os, ∀ v ∈ q.2, 0 ≤ v ∧ v < (f.blocks.length : Int)) ∧ Below base w1 wr
def Stepped (w1 : World) (base hw bm : Nat) (f : FunV) (fk fb fs : Value) (mF : List Bool) (lF : List Int) (k : Nat) (e : Ending) (w' : World) : Prop := e = .returned (.tuple #[]) ∧ ∃ k', k' < k ∧ WLoop w1 base hw bm f fk fb fs mF lF k' w'
theorem step_all (w1 : World) (f : FunV) (base hw bm : Nat) (fk fb fs vo vl : Value) (b : Int) (nx : List Int) (m : List Bool) (os : List (Int × List Int)) (l : List Int) (ov : List (Int × Value)) (mF : List Bool) (lF : List Int) (w : World) (B : Nat) (hB : B ≤ base) (hbw1 : base ≤ w1.heap.size)
    (hi : FunI w1 (· < B) fk fb fs f) (hok : FlowOk f) (hW : WalkP w base hw bm f.blocks.length fk fb f.params f.result fs m (os ++ [(b, nx)]) l vo vl ov) (hF : FinS f (os ++ [(b, nx)]).reverse m l mF lF)
    (hcnt : (os ++ [(b, nx)]).length + l.length + m.count false = f.blocks.length) (hin : ∀ q ∈ os ++ [(b, nx)], ∀ v ∈ q.2, 0 ≤ v ∧ v < (f.blocks.length : Int)) (hb : Below base w1 w) :
    Calls Try.prog 51 #[.pointer (some ⟨hw, 0, none⟩)] w (Stepped w1 base hw bm f fk fb fs mF lF (walkM m (os ++ [(b, nx)]))) := by
  have hls := hok.1
  have hbase : base ≤ w.heap.size := by have := hb.size; omega
  rw [List.reverse_append, List.reverse_singleton, List.singleton_append] at hF
  simp only [List.length_append, List.length_singleton] at hcnt
  have hinO : ∀ q ∈ os, ∀ v ∈ q.2, 0 ≤ v ∧ v < (f.blocks.length : Int) := fun q hq => hin q (List.mem_append_left _ hq)
  have hinT := hin (b, nx) (List.mem_append_right _ (List.mem_singleton.2 rfl))
  cases nx with
  | nil =>
    refine (step_pop base hw bm _ fk fb fs vo vl _ _ b m os l ov w hbase hW (by omega) (by omega)).mono fun e w' ⟨he, ⟨vo', vl', ov', hW'⟩, hb'⟩ => ?_
    exact ⟨he, _, walkM_pop m os b, m, os, l ++ [b], vo', vl', ov', rfl, hW', hF.pop, by simp only [List.length_append, List.length_singleton]; omega, hinO, hb.trans hb'⟩
  | cons c cs =>
    have hcr := hinT c (List.mem_cons_self)
    obtain ⟨cn, rfl⟩ : ∃ cn : Nat, c = cn := ⟨c.toNat, by omega⟩
    have hcn : cn < f.blocks.length := by omega
    have hmet : metB m (cn : Int) = m.getD cn false := by unfold metB; rw [Int.toNat_natCast]
    have hinC : ∀ q ∈ os ++ [(b, cs)], ∀ v ∈ q.2, 0 ≤ v ∧ v < (f.blocks.length : Int) := fun q hq => by
      rcases List.mem_append.1 hq with h | h
      · exact hinO q h
      · rw [List.mem_singleton] at h
        subst h
        exact fun v hv => hinT v (List.mem_cons_of_mem _ hv)
    by_cases hm : m.getD cn false = true
    · refine (step_old base hw bm _ fk fb fs vo vl _ _ b cn cs m os l ov w hbase hW (by omega) hcn hm).mono fun e w' ⟨he, ⟨vo', vl', ov', hW'⟩, hb'⟩ => ?_
      exact ⟨he, _, walkM_old m os b cn cs, m, os ++ [(b, cs)], l, vo', vl', ov', rfl, hW', by rw [List.reverse_append, List.reverse_singleton, List.singleton_append]; exact hF.old (by rw [hmet]; exact hm), by simp only [List.length_append, List.length_singleton]; omega, hinC, hb.trans hb'⟩
    · have hmf := Bool.eq_false_iff.2 hm
      have hmm : meet m (cn : Int) = m.set cn true := by unfold meet; rw [Int.toNat_natCast]
      have hcm := count_meet (m := m) (c := (cn : Int)) (by rw [Int.toNat_natCast, hW.len]; exact hcn) (by rw [hmet]; exact hmf)
      refine (step_new f base hw bm fk fb fs vo vl b cn cs m os l ov w B hB hbase (hi.keep (Same'.of_below (hb.mono hB)) (fun _ h => h)) hok hW (by omega) hcn hmf).mono fun e w' ⟨he, ⟨vo', vl', ov', hW'⟩, hb'⟩ => ?_
      have hwm := walkM_new (f := f) (m := m) os b (cn : Int) cs (by rw [Int.toNat_natCast, hW.len]; exact hcn) (by rw [hmet]; exact hmf)
      rw [hmm, Int.toNat_natCast] at hwm
      rw [hmm] at hcm
      have hFn := hF.new (by rw [hmet]; exact hmf)
      rw [hmm, Int.toNat_natCast] at hFn
      exact ⟨he, _, hwm, m.set cn true, os ++ [(b, cs)] ++ [((cn : Int), nxt f cn)], l, vo', vl', ov', rfl, hW', by rw [List.reverse_append, List.reverse_append, List.reverse_singleton, List.reverse_singleton, List.singleton_append, List.singleton_append]; exact hFn, by simp only [List.length_append, List.length_singleton]; omega, fun q hq => by
        rcases List.mem_append.1 hq with h | h
        · exact hinC q h
        · rw [List.mem_singleton] at h
          subst h
          exact fun v hv => hok.2.2 cn v hv, hb.trans hb'⟩
theorem madeCells_bool (n : Nat) : madeCells (Value.bool false).cells (n * 1) = ((List.replicate n false).map Value.bool).toArray := by
  unfold madeCells
  apply Array.ext
  · simp
  · intro i h1 h2
    simp [Value.cells, Nat.mod_one]
def WStart (w1 : World) (base n : Nat) (fk fb : Value) (fp fr : Int) (fs : Value) (p : Value) (w' : World) : Prop := ∃ hw bm, p = .pointer (some ⟨hw, 0, none⟩) ∧ WalkP w' base hw bm n fk fb fp fr fs (List.replicate n false) [] [] (.slice none 0 0) (.slice none 0 0) [] ∧ Below base w1 w'
theorem wstart_of {w1 w' : World} {base n hw bm : Nat} {fk fb fs : Value} {fp fr : Int} {mc : Array Value} (hmc : mc = ((List.replicate n false).map Value.bool).toArray) (h1 : Box w' hw #[fk, fb, .int .i64 fp, .int .i64 fr, fs, .slice (some ⟨bm, 0, none⟩) n n, .slice none 0 0, .slice none 0 0] 73) (h2 : Box w' bm mc 4) (h3 : base ≤ hw ∧ base ≤ bm) (hb : Below base w1 w') : WStart w1 base n fk fb fp fr fs (.pointer (some ⟨hw, 0, none⟩)) w' :=
  ⟨hw, bm, rfl, ⟨h1, by rw [← hmc]; exact h2, by simp, OwV.nil _ _, Ow.nil _ _ _ _, rfl, fun i p q hp => by simp at hp, h3⟩, hb⟩
def StartsAt (f : FunV) : Prop := ∃ mF lF, Dfs f [0] (List.replicate f.blocks.length false) [] mF lF
theorem starts_at {f : FunV} (hok : FlowOk f) (h1 : 1 ≤ f.blocks.length) : StartsAt f := by
  obtain ⟨m', l', h, -⟩ := dfs_total hok.2.2 _ (List.replicate f.blocks.length false) [0] [] (by simp) (by intro c hc; simp at hc; subst hc; omega) (Nat.le_refl _)
  exact ⟨m', l', h⟩
theorem wloop_start {w1 wr : World} {base hw bm : Nat} {f : FunV} {fk fb fs vo vl : Value} {ov : List (Int × Value)} {mF : List Bool} {lF : List Int} (h1 : 1 ≤ f.blocks.length) (hok : FlowOk f) (hD : Dfs f [0] (List.replicate f.blocks.length false) [] mF lF)
    (hW : WalkP wr base hw bm f.blocks.length fk fb f.params f.result fs ((List.replicate f.blocks.length false).set 0 true) ([] ++ [(((0 : Nat) : Int), nxt f 0)]) [] vo vl ov) (hb : Below base w1 wr) :
    WLoop w1 base hw bm f fk fb fs mF lF (walkM ((List.replicate f.blocks.length false).set 0 true) ([] ++ [(((0 : Nat) : Int), nxt f 0)])) wr := by
  have hm : metB (List.replicate f.blocks.length false) 0 = false := by
    unfold metB
    simp [List.getD, List.getElem?_replicate]
    split <;> rfl
  have hc := count_meet (m := List.replicate f.blocks.length false) (c := 0) (by simp; omega) hm
  have hF := FinS.start hD hm
  refine ⟨_, _, _, _, _, _, rfl, hW, hF, ?_, ?_, hb⟩
  · have e : (meet (List.replicate f.blocks.length false) 0) = (List.replicate f.blocks.length false).set 0 true := rfl
    rw [e, List.count_replicate_self] at hc
    simp only [List.nil_append, List.length_singleton, List.length_nil]
    omega
  · intro q hq v hv
    simp only [List.nil_append, List.mem_singleton] at hq
    subst hq
    exact hok.2.2 0 v hv
theorem start_a (w1 : World) {n : Nat} {fk fb fs : Value} {fp fr : Int} {mc : Array Value} (hmc : mc = ((List.replicate n false).map Value.bool).toArray) : WStart w1 w1.heap.size n fk fb fp fr fs (.pointer (some ⟨w1.heap.size + 1, 0, none⟩)) (((w1.alloc (.cells mc 4)).alloc (.cells #[fk, fb, .int .i64 fp, .int .i64 fr, fs, .slice (some ⟨w1.heap.size, 0, none⟩) n n, .slice none 0 0, .slice none 0 0] 73)).drew) := by
  have h1 := Box.new (w1.alloc (.cells mc 4)) #[fk, fb, .int .i64 fp, .int .i64 fr, fs, .slice (some ⟨w1.heap.size, 0, none⟩) n n, .slice none 0 0, .slice none 0 0] 73
  rw [World.size_alloc] at h1
  have h2 := (Box.new w1 mc 4).alloc (.cells #[fk, fb, .int .i64 fp, .int .i64 fr, fs, .slice (some ⟨w1.heap.size, 0, none⟩) n n, .slice none 0 0, .slice none 0 0] 73)
  have hb := below_drewN (((Below.refl w1.heap.size w1).alloc (Nat.le_refl _) (.cells mc 4)).alloc (by simp only [World.size_alloc]; omega) (.cells #[fk, fb, .int .i64 fp, .int .i64 fr, fs, .slice (some ⟨w1.heap.size, 0, none⟩) n n, .slice none 0 0, .slice none 0 0] 73)) 1
  exact wstart_of hmc h1 h2 ⟨by omega, Nat.le_refl _⟩ hb
theorem start_b (w1 : World) {n : Nat} {fk fb fs : Value} {fp fr : Int} {mc : Array Value} (hmc : mc = ((List.replicate n false).map Value.bool).toArray) : WStart w1 w1.heap.size n fk fb fp fr fs (.pointer (some ⟨w1.heap.size, 0, none⟩)) (((w1.alloc (.cells #[fk, fb, .int .i64 fp, .int .i64 fr, fs, .slice (some ⟨w1.heap.size + 1, 0, none⟩) n n, .slice none 0 0, .slice none 0 0] 73)).alloc (.cells mc 4)).drew) := by
  have h1 := (Box.new w1 #[fk, fb, .int .i64 fp, .int .i64 fr, fs, .slice (some ⟨w1.heap.size + 1, 0, none⟩) n n, .slice none 0 0, .slice none 0 0] 73).alloc (.cells mc 4)
  have h2 := Box.new (w1.alloc (.cells #[fk, fb, .int .i64 fp, .int .i64 fr, fs, .slice (some ⟨w1.heap.size + 1, 0, none⟩) n n, .slice none 0 0, .slice none 0 0] 73)) mc 4
  rw [World.size_alloc] at h2
  have hb := below_drewN (((Below.refl w1.heap.size w1).alloc (Nat.le_refl _) (.cells #[fk, fb, .int .i64 fp, .int .i64 fr, fs, .slice (some ⟨w1.heap.size + 1, 0, none⟩) n n, .slice none 0 0, .slice none 0 0] 73)).alloc (by simp only [World.size_alloc]; omega) (.cells mc 4)) 1
  exact wstart_of hmc h1 h2 ⟨Nat.le_refl _, by omega⟩ hb
set_option maxHeartbeats 1000000 in
set_option maxRecDepth 100000 in
theorem walked_any (vk vb vs : Value) (f : FunV) (w : World) (B : Nat) (hB : B ≤ w.heap.size) (hi : FunI w (· < B) vk vb vs f) (hok : FlowOk f) (h1 : 1 ≤ f.blocks.length) :
    Calls Try.prog 36 #[.agg #[vk, vb, .int .i64 f.params, .int .i64 f.result, vs]] w fun e w' => ∃ v mF lF, e = .returned v ∧ Dfs f [0] (List.replicate f.blocks.length false) [] mF lF ∧ Ow w' w.heap.size 3 .i64 v lF ∧ Below w.heap.size w w' := by
  obtain ⟨Ak, ck, rfl, hck, hmk⟩ := hi.1.open'
  obtain ⟨Ab, cb, rfl, hcb, hmb⟩ := hi.2.1.open'
  obtain ⟨As, cs, rfl, hcs, hms⟩ := hi.2.2.1.open'
  have hls40 := hok.1
  have HI := hide hi
  have HOK := hide hok
  have hmake : ∀ W : World, (Instr.makeSlice 53 (.int .i64 (f.blocks.length : Int)) (.int .i64 (f.blocks.length : Int))).run Try.prog W = .ok (.slice (some ⟨W.heap.size, 0, none⟩) f.blocks.length f.blocks.length) (W.alloc (.cells (madeCells (Value.bool false).cells (f.blocks.length * 1)) 4)) := fun W => mk_run 53 4 Try.underlying53 info_bool (by omega) f.blocks.length (by omega) W
  obtain ⟨mc, hmc⟩ : ∃ mc, madeCells (Value.bool false).cells (f.blocks.length * 1) = mc := ⟨_, rfl⟩
  rw [hmc] at hmake
  have HMC := hide (hmc.symm.trans (madeCells_bool _))
  obtain ⟨ls, hls⟩ : ∃ ls, f.blocks.length = ls := ⟨_, rfl⟩
  have HLS := hide hls
  rw [hls] at hmake h1 hls40 hcs ⊢
  obtain ⟨lk, hlk⟩ : ∃ lk, f.kinds.length = lk := ⟨_, rfl⟩
  obtain ⟨lb, hlb⟩ : ∃ lb, f.base.length = lb := ⟨_, rfl⟩
  obtain ⟨fp, hfp⟩ : ∃ fp, f.params = fp := ⟨_, rfl⟩
  obtain ⟨fr, hfr⟩ : ∃ fr, f.result = fr := ⟨_, rfl⟩
  rw [hlk] at hck
  rw [hlb] at hcb
  rw [hlk, hlb, hfp, hfr]
  have HLK := hide hlk; have HLB := hide hlb; have HFP := hide hfp; have HFR := hide hfr
  clear hi hok hmc hls hlk hlb hfp hfr
  go_enter Try.func36, Try.ntmps36
  go_upto_region 1 with (fail)
  obtain ⟨w1, hw1⟩ : ∃ w1, w1 = w.alloc (.cells #[.slice Ak lk ck, .slice Ab lb cb, .int .i64 fp, .int .i64 fr, .slice As ls cs] 30) := ⟨_, rfl⟩
  have HX1 := hide (show Box w1 w.heap.size #[.slice Ak lk ck, .slice Ab lb cb, .int .i64 fp, .int .i64 fr, .slice As ls cs] 30 by rw [hw1]; exact Box.new w _ _)
  have HB1 := hide (show Below w.heap.size w w1 by rw [hw1]; exact alloc1 w _)
  rw [← hw1]
  clear hw1
  have l1 := HX1.out.lt
  have c0 := (HX1.out.cell 0 (v := .slice Ak lk ck) rfl).1
  have c1 := (HX1.out.cell 1 (v := .slice Ab lb cb) rfl).1
  have c2 := (HX1.out.cell 2 (v := .int .i64 fp) rfl).1
  have c3 := (HX1.out.cell 3 (v := .int .i64 fr) rfl).1
  have c4 := (HX1.out.cell 4 (v := .slice As ls cs) rfl).1
  have hbs : w1.heap.size ≤ w1.heap.size := Nat.le_refl _
  go_cut [3] from 4 (fun p wx => WStart w1 w1.heap.size ls (.slice Ak lk ck) (.slice Ab lb cb) fp fr (.slice As ls cs) p wx)
  case first =>
    go_region
    all_goals
      go_wp2_with fail
      go_meet
      case rel =>
        first
          | exact start_a w1 (by rw [← HLS.out]; exact HMC.out)
          | exact start_b w1 (by rw [← HLS.out]; exact HMC.out)
  case rest =>
    obtain ⟨hw, bm, rfl, hW, hb⟩ := hcut
    have hz := hb.size
    have hst : StartsAt f := starts_at HOK.out (by rw [HLS.out]; exact h1)
    obtain ⟨mF, lF, hD⟩ := hst
    rw [← HLK.out, ← HLB.out, ← HFP.out, ← HFR.out, ← HLS.out] at hW
    have HEN := hide (enter_any f w1.heap.size hw bm _ _ _ _ _ _ _ _ _ 0 wc B (by omega) hz (HI.out.keep (Same'.of_below ((HB1.out.mono hB).trans (hb.mono (by omega)))) (fun _ h => h)) HOK.out (by rw [HLS.out]; exact h1) hW (by simp))
    have HD := hide hD
    have HBC := hide hb
    clear hW hD hb c0 c1 c2 c3 c4
    go_wp2_with (go_at_call 50; refine HEN.out.mono ?_; rintro e w2 ⟨rfl, ⟨vo', ov', hW2⟩, hb2⟩; have HW2 := hide hW2; have HB2 := hide (HBC.out.trans hb2); clear hW2 hb2)
    have HL0 := hide (wloop_start (by rw [HLS.out]; exact h1) HOK.out HD.out HW2.out HB2.out)
    clear HW2 HB2
    go_loopg [] (walkM ((List.replicate f.blocks.length false).set 0 true) ([] ++ [(((0 : Nat) : Int), nxt f 0)])) (fun k wr => WLoop w1 w1.heap.size hw bm f (.slice Ak f.kinds.length ck) (.slice Ab f.base.length cb) (.slice As f.blocks.length cs) mF lF k wr)
    case atStart => exact HL0.out
    case round =>
      obtain ⟨m, os, l, vo, vl, ov, hk, hW, hF, hcnt, hin, hb⟩ := hrel
      obtain ⟨Al, cl, rfl, -, -, -⟩ := hW.lft.sl
      obtain ⟨Ao, co, rfl, -, -⟩ := hW.opn.sl
      have hwl := hW.box.lt
      have b6 := (hW.box.cell 6 (v := .slice Ao ov.length co) rfl).1
      have b7 := (hW.box.cell 7 (v := .slice Al l.length cl) rfl).1
      have hvl := hW.vlen
      rcases List.eq_nil_or_concat os with rfl | ⟨os', ⟨b, nx⟩, rfl⟩
      · obtain ⟨rfl, rfl⟩ := hF.empty
        have hz0 : ov.length = 0 := by simpa using hvl
        rw [hz0] at b6
        have HO := hide (hW.lft.lower HB1.out.size)
        have HBE := hide (HB1.out.trans (hb.mono HB1.out.size))
        clear hz0 hvl hin hcnt hW hF hk hb HEN HL0
        go_wp2
        go_ret
        exact ⟨_, m, l, rfl, by rw [← HLS.out]; exact HD.out, HO.out, HBE.out⟩
      · rw [List.concat_eq_append] at hW hF hcnt hin hk hvl
        have hno : 0 < ov.length := by rw [hvl]; simp
        have HST := hide (step_all w1 f w1.heap.size hw bm _ _ _ _ _ b nx m os' l ov mF lF wr B (by omega) (Nat.le_refl _) (HI.out.keep (Same'.of_below (HB1.out.mono hB)) (fun _ h => h)) HOK.out hW hF hcnt hin hb)
        rw [← hk] at HST
        clear hvl hin hcnt hW hF hk hb HEN HL0
        generalize ov.length = no at *
        go_wp2_with (go_at_call 51; refine HST.out.mono ?_; rintro e w3 ⟨rfl, k', hk', hL⟩; have HK := hide hk'; have HL := hide hL; clear hk' hL)
        go_roundg k'
        case measure => exact HK.out
        case rel => exact HL.out
end Go.Proofs.Ytkpikgakphdjjaa
