/- The contract of the writer's function. Conditions: the table of parts reads as listed; no more than 2^30 bytes. -/
import Derived.Test.YtpggjolbohffjaaDoorCWIns
import Derived.Test.YtpggjolbohffjaaDoorCMayF
set_option linter.unusedSimpArgs false
set_option linter.unusedVariables false
namespace Go.Proofs.YtpggjolbohffjaaDoor
open Go.RowKit

def encVar (kb : Int × Int) : List Int := encL [kb.1] ++ (if kb.1 = 2 then encL [kb.2] else [])
def encBlk (b : List InsV) : List Int := encL [(b.length : Int)] ++ b.flatMap encIns
def encFun (f : FunV) : List Int := encL [(f.kinds.length : Int)] ++ (f.kinds.zip f.base).flatMap encVar ++ encL [f.params, f.result, (f.blocks.length : Int)] ++ f.blocks.flatMap encBlk
def encProg (p : List FunV) : List Int := encL [(p.length : Int)] ++ p.flatMap encFun
/-- What the counts give the writer. -/
def blkFew (b : List InsV) : Prop := b.length ≤ 40 ∧ ∀ x ∈ b, x.args.length ≤ 4
def funFew (f : FunV) : Prop := f.kinds.length ≤ 48 ∧ f.base.length = f.kinds.length ∧ f.blocks.length ≤ 40 ∧ ∀ b ∈ f.blocks, blkFew b

theorem putLit {w W : World} {g base : Nat} {pre : List Int} (l : List Int) (cs : Array Value) (s : Nat) (hs : W.heap.size = s) (hW : Wrote w g base pre W) (hcs : cs.toList = l.map (Value.int .i64)) (hr : ∀ z ∈ l, i64R z) (hl : l.length ≤ 100) (hroom : pre.length ≤ 1073741824) :
    Calls Tryd.prog 77 #[.pointer (some ⟨g, 0, none⟩), .slice (some ⟨s, 0, none⟩) l.length l.length] (W.alloc (.cells cs 3)) fun e w' => e = .returned (.tuple #[]) ∧ Wrote w g base (pre ++ encL l) w' ∧ Lib.OthersKept 5 (some g) W w' := by
  subst hs
  exact (put_any _ l g base pre (W.alloc (.cells cs 3)) (hW.ws.alloc _) (IntsV.lit W l cs 3 hcs hr hl) (by omega) hroom).mono fun e w' ⟨he, hw⟩ =>
    ⟨he, (hW.alloc _).trans hw, ((Lib.OthersKept.refl 5 (some g) W).alloc _).trans hw.kept⟩
theorem Wrote.up {w W : World} {g base B : Nat} {pre : List Int} (h : Wrote w g base pre W) (hB : B ≤ base) : Same' (· < B) w W := fun b o hb => h.below.cell (p := ⟨b, o, none⟩) (by show b < base; omega)
theorem Wrote.step {w W W2 : World} {g base : Nat} {pre ys : List Int} (h : Wrote w g base pre W) (h2 : Wrote W g base ys W2) : Wrote w g base ys W2 ∧ Lib.OthersKept 5 (some g) W W2 := ⟨h.trans h2, h2.kept⟩

def FBox (w : World) (h : Nat) (f : FunV) (vk vb vs : Value) : Prop := Box w h #[vk, vb, .int .i64 f.params, .int .i64 f.result, vs] 38

set_option maxHeartbeats 400000 in
set_option maxRecDepth 100000 in
theorem wfun_any (vk vb vs : Value) (f : FunV) (g base : Nat) (zs : List Int) (w : World) (B : Nat) (hB : B ≤ base) (hB0 : 0 < base) (hbw : base ≤ w.heap.size) (hW : WS w g base zs) (hT : TabP w) (hf : FunI w (· < B) vk vb vs f) (hfew : funFew f) (hroom : zs.length + (encFun f).length ≤ 1073741824) :
    Calls Tryd.prog 78 #[.pointer (some ⟨g, 0, none⟩), .agg #[vk, vb, .int .i64 f.params, .int .i64 f.result, vs]] w fun e w' => e = .returned (.tuple #[]) ∧ Wrote w g base (zs ++ encFun f) w' := by
  obtain ⟨hk, hb, hs, hpr, hrr⟩ := hf
  obtain ⟨hfk, hfb, hfs, hfx⟩ := hfew
  obtain ⟨Ak, ck, rfl, -, -⟩ := hk.open'
  obtain ⟨Ab, cb, rfl, -, -⟩ := hb.open'
  obtain ⟨As, cs, rfl, -, -⟩ := hs.open'
  obtain ⟨n, hn⟩ : ∃ n, f.kinds.length = n := ⟨_, rfl⟩
  obtain ⟨l, hl⟩ : ∃ l, f.blocks.length = l := ⟨_, rfl⟩
  have HT0 := hide (show encFun f = encL [(n : Int)] ++ (f.kinds.zip f.base).flatMap encVar ++ encL [f.params, f.result, (l : Int)] ++ f.blocks.flatMap encBlk by unfold encFun; rw [hn, hl])
  have hlen : (encFun f).length = (encL [(n : Int)]).length + ((f.kinds.zip f.base).flatMap encVar).length + (encL [f.params, f.result, (l : Int)]).length + (f.blocks.flatMap encBlk).length := by rw [HT0.out]; simp only [List.length_append]
  have HV := hide (fun k => flatMap_take_le (f.kinds.zip f.base) k encVar)
  have HBk := hide (fun k => flatMap_take_le f.blocks k encBlk)
  rw [hfb] at hb ⊢
  rw [hn] at hk hb hfk hfb ⊢
  rw [hl] at hs hfs ⊢
  have HRM := hide (show zs.length + ((encL [(n : Int)]).length + ((f.kinds.zip f.base).flatMap encVar).length + (encL [f.params, f.result, (l : Int)]).length + (f.blocks.flatMap encBlk).length) ≤ 1073741824 by rw [← hlen]; exact hroom)
  have HK := hide hk; have HBs := hide hb; have HS := hide hs; have HN := hide hn; have HM := hide hfb; have HL := hide hl; have HT := hide hT; have HW := hide hW; have HX := hide hfx
  have HPR := hide hpr; have HRR := hide hrr
  have hgw := hW.lt.2
  clear hk hb hs hn hfb hl hT hW hfx hpr hrr hroom hlen
  generalize f.params = fp at *
  generalize f.result = fr at *
  have hW1 := (Wrote.refl HW.out).alloc (.cells #[.slice Ak n ck, .slice Ab n cb, .int .i64 fp, .int .i64 fr, .slice As l cs] 38)
  have H1 := hide (putLit [(n : Int)] #[.int .i64 (n : Int)] (w.heap.size + 1) (by simp) hW1 rfl (by simp [i64R]; omega) (by simp) (by have := HRM.out; omega))
  have hgH : w.heap.size ≠ g := by omega
  clear hW1
  go_enter Tryd.func78, Tryd.ntmps78
  go_wp2_with (go_at_call 77; refine H1.out.mono ?_; rintro e w1 ⟨rfl, hw1, hk1⟩; have hbx : Box w1 w.heap.size #[.slice Ak n ck, .slice Ab n cb, .int .i64 fp, .int .i64 fr, .slice As l cs] 38 := (Box.new w _ _).kept hk1 hgH (by decide); have HBX := hide hbx; have x0 := (hbx.cell 0 (v := .slice Ak n ck) rfl).1; have x1 := (hbx.cell 1 (v := .slice Ab n cb) rfl).1; have x2 := (hbx.cell 2 (v := .int .i64 fp) rfl).1; have x3 := (hbx.cell 3 (v := .int .i64 fr) rfl).1; have x4 := (hbx.cell 4 (v := .slice As l cs) rfl).1; clear hbx)
  have HW1 := hide hw1
  clear hw1 hk1
  go_loopw [19] (fun i wr => ∃ k : Nat, k ≤ n ∧ i = .int .i64 k ∧ Box wr w.heap.size #[.slice Ak n ck, .slice Ab n cb, .int .i64 fp, .int .i64 fr, .slice As l cs] 38 ∧ Wrote w g base (zs ++ encL [(n : Int)] ++ ((f.kinds.zip f.base).take k).flatMap encVar) wr) (fun i _ => n - (intOf i).toNat)
  case atStart => exact ⟨0, Nat.zero_le _, rfl, HBX.out, HW1.out.cast (by simp)⟩
  case round =>
    obtain ⟨k, hk, rfl, hbx, hwr⟩ := hrel
    have hlt0 := hbx.lt
    by_cases hlt : k < n
    · obtain ⟨x, hx⟩ : ∃ x, f.kinds[k]? = some x := ⟨_, List.getElem?_eq_getElem (by have := HN.out; omega)⟩
      obtain ⟨y, hy⟩ : ∃ y, f.base[k]? = some y := ⟨_, List.getElem?_eq_getElem (by have := HM.out; omega)⟩
      obtain ⟨b1, o1, rfl, hb1, e1, hr1⟩ := (HK.out.keep (hwr.up hB) (fun _ h => h)).get hx
      obtain ⟨b2, o2, rfl, hb2, e2, hr2⟩ := HBs.out.get hy
      have hfm := flatMap_take (f := encVar) (zip_get hx hy)
      have hle := HV.out (k + 1)
      rw [hfm, List.length_append] at hle
      obtain ⟨pre, hpre⟩ : ∃ pre, zs ++ encL [(n : Int)] ++ ((f.kinds.zip f.base).take k).flatMap encVar = pre := ⟨_, rfl⟩
      have hpl := congrArg List.length hpre
      simp only [List.length_append] at hpl
      rw [hpre] at hwr
      have hrm := HRM.out
      have HFM := hide (show zs ++ encL [(n : Int)] ++ ((f.kinds.zip f.base).take (k + 1)).flatMap encVar = pre ++ encVar (x, y) by rw [hfm, ← List.append_assoc, hpre])
      have hroom1 : pre.length + (encVar (x, y)).length ≤ 1073741824 := by omega
      have H2 := hide (putLit [x] #[.int .i64 x] wr.heap.size rfl hwr rfl (by simpa using hr1) (by simp) (by omega))
      have HBX2 := hide hbx
      have hbs1 : b1 < wr.heap.size := by have := hwr.below.size; omega
      have hbs0 := hwr.below.size
      clear hx hy hfm hle hpre hpl hrm
      by_cases h2 : x = 2
      · subst h2
        have hev := hide (show encVar (2, y) = encL [2] ++ encL [y] from rfl)
        rw [hev.out, List.length_append] at hroom1
        go_wp2_with (first
          | (go_at_call 77; refine (putLit [y] #[.int .i64 y] w3.heap.size rfl hw3 rfl (by simpa using hr2) (by simp) (by rw [List.length_append]; omega)).mono ?_; rintro e w4 ⟨rfl, hw4, hk4⟩)
          | (go_at_call 77; refine H2.out.mono ?_; rintro e w3 ⟨rfl, hw3, hk3⟩
             have hb3 := HBX2.out.kept hk3 hgH (by decide)
             have HB3 := hide hb3
             have q1 := (hb3.cell 1 (v := .slice (some ⟨b2, o2, none⟩) n cb) rfl).1
             have q2 := hb3.lt
             have q3 := (hw3.up hB b2 (o2 + k) hb2).trans e2
             have q4 : b2 < w3.heap.size := by have := hw3.below.size; omega
             clear hb3))
        go_roundw
        case rel => exact ⟨k + 1, by omega, by go_num, HB3.out.kept hk4 hgH (by decide), hw4.cast (by rw [HFM.out, hev.out, List.append_assoc])⟩
        case measure => simp [intOf]; omega
      · have h2b : (x == 2) = false := by simpa using h2
        have hev := hide (show encVar (x, y) = encL [x] by unfold encVar; simp [h2])
        clear h2
        go_wp2_with (go_at_call 77; refine H2.out.mono ?_; rintro e w3 ⟨rfl, hw3, hk3⟩)
        go_roundw
        case rel => exact ⟨k + 1, by omega, by go_num, HBX2.out.kept hk3 hgH (by decide), hw3.cast (by rw [HFM.out, hev.out])⟩
        case measure => simp [intOf]; omega
    · obtain ⟨wo, rfl⟩ : ∃ wo, wo = wr := ⟨_, rfl⟩
      obtain ⟨pre, hpre⟩ : ∃ pre, zs ++ encL [(n : Int)] ++ (f.kinds.zip f.base).flatMap encVar = pre := ⟨_, rfl⟩
      rw [List.take_of_length_le (by have := HN.out; have := HM.out; simp; omega), hpre] at hwr
      have hpl := congrArg List.length hpre
      simp only [List.length_append] at hpl
      have hrm := HRM.out
      have HPRE := hide hpre
      have hroom1 : pre.length + ((encL [fp, fr, (l : Int)]).length + (f.blocks.flatMap encBlk).length) ≤ 1073741824 := by omega
      have H3 := hide (putLit [fp, fr, (l : Int)] #[.int .i64 fp, .int .i64 fr, .int .i64 (l : Int)] wo.heap.size rfl hwr rfl (by have h1 := HPR.out; have h2 := HRR.out; intro z hz; simp at hz; rcases hz with rfl | rfl | rfl; exact h1; exact h2; unfold i64R; omega) (by simp) (by omega))
      have y2 := (hbx.cell 2 (v := .int .i64 fp) rfl).1
      have y3 := (hbx.cell 3 (v := .int .i64 fr) rfl).1
      have y4 := (hbx.cell 4 (v := .slice As l cs) rfl).1
      have HBX2 := hide hbx
      clear hpre hpl hrm x0 x1 x2 x3 x4 hbx hwr
      go_wp2_with (go_at_call 77; refine H3.out.mono ?_; rintro e w3 ⟨rfl, hw3, hk3⟩; have hb3 := HBX2.out.kept hk3 hgH (by decide); have q4 := (hb3.cell 4 (v := .slice As l cs) rfl).1; have q5 := hb3.lt; have HW3 := hide hw3; clear hb3)
      clear hw3 hk3 hlt0
      obtain ⟨pre2, hpre2⟩ : ∃ pre2, pre ++ encL [fp, fr, (l : Int)] = pre2 := ⟨_, rfl⟩
      have hpl2 := congrArg List.length hpre2
      rw [List.length_append] at hpl2
      rw [hpre2] at HW3
      have hroom2 : pre2.length + (f.blocks.flatMap encBlk).length ≤ 1073741824 := by omega
      have HP2 := hide hpre2
      clear hpl2 hpre2 hroom1
      go_loopw [52] (fun i wr => ∃ k : Nat, k ≤ l ∧ i = .int .i64 k ∧ Wrote w g base (pre2 ++ (f.blocks.take k).flatMap encBlk) wr) (fun i _ => l - (intOf i).toNat)
      case atStart => exact ⟨0, Nat.zero_le _, rfl, HW3.out.cast (by simp)⟩
      case round =>
        obtain ⟨i, hi, rfl, hwr⟩ := hrel
        obtain ⟨wi, rfl⟩ : ∃ wi, wi = wr := ⟨_, rfl⟩
        have hbs0 := hwr.below.size
        by_cases hlt : i < l
        · obtain ⟨x, hx⟩ : ∃ x, f.blocks[i]? = some x := ⟨_, List.getElem?_eq_getElem (by have := HL.out; omega)⟩
          obtain ⟨b1, o1, A1, c1, rfl, hb1, e1, hx1⟩ := (HS.out.keep (hwr.up hB) (fun _ h => h)).get hx
          have hs1 : b1 < wi.heap.size := by omega
          obtain ⟨hxl, hxa⟩ := HX.out x (List.mem_of_getElem? hx)
          have hfm := flatMap_take (f := encBlk) hx
          have hle := HBk.out (i + 1)
          rw [hfm, List.length_append] at hle
          obtain ⟨pre3, hpre3⟩ : ∃ pre3, pre2 ++ (f.blocks.take i).flatMap encBlk = pre3 := ⟨_, rfl⟩
          have hpl3 := congrArg List.length hpre3
          simp only [List.length_append] at hpl3
          rw [hpre3] at hwr
          have HFM := hide (show pre2 ++ (f.blocks.take (i + 1)).flatMap encBlk = pre3 ++ encBlk x by rw [hfm, ← List.append_assoc, hpre3])
          obtain ⟨d1, hd1⟩ : ∃ d, x.length = d := ⟨_, rfl⟩
          have hev := hide (show encBlk x = encL [(d1 : Int)] ++ x.flatMap encIns by unfold encBlk; rw [hd1])
          have hroom3 : pre3.length + ((encL [(d1 : Int)]).length + (x.flatMap encIns).length) ≤ 1073741824 := by rw [hev.out, List.length_append] at hle; omega
          rw [hd1] at e1 hx1 hxl
          have H4 := hide (putLit [(d1 : Int)] #[.int .i64 (d1 : Int)] (wi.heap.size + 1) (by simp) (hwr.alloc (.cells #[.slice A1 d1 c1] 52)) rfl (by simp [i64R]; omega) (by simp) (by omega))
          have HX1 := hide hx1
          have HD := hide hd1
          have HXA := hide hxa
          have HWI := hide hwr
          have HXI := hide (fun k => flatMap_take_le x k encIns)
          have hgi : wi.heap.size ≠ g := by have := hwr.ws.lt; omega
          clear hx hfm hle hpre3 hpl3 hd1 hx1 hxa hwr
          go_wp2_with (go_at_call 77; refine H4.out.mono ?_; rintro e w5 ⟨rfl, hw5, hk5⟩; have hb5 := (Box.new wi #[.slice A1 d1 c1] 52).kept hk5 hgi (by decide); have z0 := (hb5.cell 0 (v := .slice A1 d1 c1) rfl).1; have z1 := hb5.lt; have HW5 := hide hw5; clear hb5 hw5 hk5)
          obtain ⟨pre4, hpre4⟩ : ∃ pre4, pre3 ++ encL [(d1 : Int)] = pre4 := ⟨_, rfl⟩
          have hpl4 := congrArg List.length hpre4
          rw [List.length_append] at hpl4
          rw [hpre4] at HW5
          have hroom4 : pre4.length + (x.flatMap encIns).length ≤ 1073741824 := by omega
          have HP4 := hide hpre4
          clear hpre4 hpl4 hroom3
          go_loopw [65] (fun j wr => ∃ q : Nat, q ≤ d1 ∧ j = .int .i64 q ∧ Wrote w g base (pre4 ++ (x.take q).flatMap encIns) wr) (fun j _ => d1 - (intOf j).toNat)
          case atStart => exact ⟨0, Nat.zero_le _, rfl, HW5.out.cast (by simp)⟩
          case round =>
            obtain ⟨q, hq, rfl, hwr⟩ := hrel
            have hbs1 := hwr.below.size
            by_cases hlq : q < d1
            · obtain ⟨y, hy⟩ : ∃ y, x[q]? = some y := ⟨_, List.getElem?_eq_getElem (by have := HD.out; omega)⟩
              obtain ⟨b2, o2, A2, c2, rfl, hb2, ⟨f0, f1, f2, f3, f4, f5, f6⟩, hy1⟩ := (HX1.out.keep (Same'.trans (fun b o hb => ((HWI.out.up hB) b o hb).symm) (hwr.up hB)) (fun _ h => h)).get hy
              have hs2 : b2 < wr.heap.size := by omega
              have hfm := flatMap_take (f := encIns) hy
              have hle := HXI.out (q + 1)
              rw [hfm, List.length_append] at hle
              obtain ⟨pre5, hpre5⟩ : ∃ pre5, pre4 ++ (x.take q).flatMap encIns = pre5 := ⟨_, rfl⟩
              have hpl5 := congrArg List.length hpre5
              simp only [List.length_append] at hpl5
              rw [hpre5] at hwr
              have HF5 := hide (show pre4 ++ (x.take (q + 1)).flatMap encIns = pre5 ++ encIns y by rw [hfm, ← List.append_assoc, hpre5])
              have hW6 := hwr.alloc (.cells #[.int .i64 y.op, .int .i64 y.d, .int .i64 y.a, .int .i64 y.b, .int .i64 y.n, .int .i64 y.m, .slice A2 y.args.length c2] 41)
              have hC := wins_any (.slice A2 y.args.length c2) y g base pre5 _ B hB hB0 (by have := hW6.below.size; omega) hW6.ws (HT.out.below hW6.below hB0) (hy1.keep (fun b o hb => World.cell?_alloc_lt _ _ _ (by show b < _; omega)) (fun _ h => h)) (HXA.out y (List.mem_of_getElem? hy)) (by omega)
              generalize y.args.length = l2 at *
              have HC := hide hC
              have HW6 := hide hW6
              clear hC hW6 hy hy1 hfm hle hpre5 hpl5 hwr
              go_wp2_with (go_at_call 96; refine HC.out.mono ?_; rintro e w7 ⟨rfl, hw7⟩)
              go_roundw
              case rel => exact ⟨q + 1, by omega, by go_num, (HW6.out.trans hw7).cast (by rw [HF5.out])⟩
              case measure => simp [intOf]; omega
            · have hend := hide (hwr.cast (ys := pre2 ++ (f.blocks.take (i + 1)).flatMap encBlk) (by rw [List.take_of_length_le (by have := HD.out; omega), HFM.out, hev.out, ← HP4.out, List.append_assoc]))
              clear hwr
              go_wp2
              go_roundw
              case rel => exact ⟨i + 1, by omega, by go_num, hend.out⟩
              case measure => simp [intOf]; omega
        · have hend := hide (hwr.cast (ys := zs ++ encFun f) (by rw [List.take_of_length_le (by have := HL.out; omega), HT0.out, ← HP2.out, ← HPRE.out]; simp only [List.append_assoc]))
          clear hwr
          go_wp2
          go_end0
          exact ⟨rfl, hend.out⟩
end Go.Proofs.YtpggjolbohffjaaDoor
