/- The contract of the writer's ins. Conditions: the table of parts reads as listed; no more than 2^30 bytes. -/
import Derived.Test.YtpggjolbohffjaaDoorCPut
import Derived.Test.YtpggjolbohffjaaDoorCMay
set_option linter.unusedSimpArgs false
set_option linter.unusedVariables false
namespace Go.Proofs.YtpggjolbohffjaaDoor
open Go.RowKit

def encPart (x : InsV) (c : Nat) : List Int := if c = 110 then enc (zz x.n) else if c = 76 then encL [(x.args.length : Int)] ++ encL x.args else encL [fieldOf c x]
def encIns (x : InsV) : List Int := encL [x.op] ++ (partsN x.op).flatMap (encPart x)

theorem IntsV.lit (w : World) (l : List Int) (cs : Array Value) (T : TypeId) (h : cs.toList = l.map (Value.int .i64)) (hr : ∀ z ∈ l, i64R z) (hl : l.length ≤ 100) :
    IntsV (w.alloc (.cells cs T)) (· < (w.alloc (.cells cs T)).heap.size) (.slice (some ⟨w.heap.size, 0, none⟩) l.length l.length) l := by
  refine ⟨_, _, rfl, Nat.le_refl _, by omega, fun _ => ⟨_, _, rfl, by simp, fun j z hj => ⟨?_, hr z (List.mem_of_getElem? hj)⟩⟩⟩
  rw [(Box.new w cs T).cell (0 + j * 1) (v := .int .i64 z) ?_ |>.1]
  rw [← Array.getElem?_toList, h, List.getElem?_map, Nat.zero_add, Nat.mul_one, hj]; rfl
theorem WS.alloc {w : World} {g base : Nat} {zs : List Int} (h : WS w g base zs) (o : Obj) : WS (w.alloc o) g base zs := by
  obtain ⟨v, hb, ho, hg⟩ := h
  exact ⟨v, hb.alloc o, ho.alloc o, hg⟩
theorem WS.lt {w : World} {g base : Nat} {zs : List Int} (h : WS w g base zs) : base ≤ g ∧ g < w.heap.size := by
  obtain ⟨v, hb, ho, hg⟩ := h
  exact ⟨hg, hb.lt⟩
theorem Wrote.refl {w : World} {g base : Nat} {zs : List Int} (h : WS w g base zs) : Wrote w g base zs w := ⟨h, Below.refl _ _, Lib.OthersKept.refl _ _ _⟩
section
variable {w w1 w2 : World} {g base : Nat} {zs ys : List Int}
theorem Wrote.alloc (h : Wrote w g base zs w1) (o : Obj) : Wrote w g base zs (w1.alloc o) :=
  ⟨h.ws.alloc o, h.below.alloc (by have := h.ws.lt; omega) o, h.kept.alloc o⟩
theorem Wrote.trans (h : Wrote w g base zs w1) (h2 : Wrote w1 g base ys w2) : Wrote w g base ys w2 := ⟨h2.ws, h.below.trans h2.below, h.kept.trans h2.kept⟩
theorem Ow.iter {w : World} {base k : Nat} {e : TypeId} {q : IntKind} {v : Value} {zs : List Int} {s : ByteArray} {p p' : Nat} (h : Ow w base e q v zs) (hk : w.heap[k]? = some (.stringIter s p)) : Ow (w.iterAt k s p') base e q v zs := by
  refine ⟨h.1, ?_⟩
  rcases h.2 with h2 | ⟨g', cap, cur, hv, hbg, hh, r⟩
  · exact .inl h2
  · refine .inr ⟨g', cap, cur, hv, hbg, ?_, r⟩
    rw [Lib.iterAt_other _ _ _ _ _ (fun e => by rw [e, hk] at hh; cases hh)]
    exact hh
theorem Wrote.iter {k : Nat} {s : ByteArray} {p p' : Nat} (h : Wrote w g base zs w1) (hk : w1.heap[k]? = some (.stringIter s p)) (hw : w.heap.size ≤ k) (hbw : base ≤ w.heap.size) : Wrote w g base zs (w1.iterAt k s p') := by
  obtain ⟨⟨v, hb, ho, hg⟩, h2, h3⟩ := h
  have hne : g ≠ k := fun e => by rw [Box, e, hk] at hb; cases hb
  refine ⟨⟨v, hb.iter hne, ho.iter hk, hg⟩, Lib.below_iterAt h2 (by omega) s p', fun i o hi hib ho' => ?_⟩
  rw [Lib.iterAt_other _ _ _ _ _ (by have := (Array.getElem?_eq_some_iff.1 hi).1; omega)]
  exact h3 i o hi hib ho'
theorem Wrote.cast (h : Wrote w g base zs w1) (e : zs = ys) : Wrote w g base ys w1 := e ▸ h
end
theorem flatMap_take {α : Type} {l : List α} {k : Nat} {c : α} {f : α → List Int} (h : l[k]? = some c) : (l.take (k + 1)).flatMap f = (l.take k).flatMap f ++ f c := by
  rw [List.take_add_one, h]; simp
theorem flatMap_take_le {α : Type} (l : List α) (k : Nat) (f : α → List Int) : ((l.take k).flatMap f).length ≤ (l.flatMap f).length := by
  conv => rhs; rw [← List.take_append_drop k l, List.flatMap_append, List.length_append]
  omega

def WInsRel (x : InsV) (va : Value) (w : World) (g base : Nat) (zs : List Int) (h H : Nat) (wr : World) : Prop :=
  ∃ k : Nat, k ≤ (partsN x.op).length ∧ wr.heap[H]? = some (.stringIter (strOf (partsN x.op)) k) ∧ Box wr h (insBox x va) 41 ∧ Wrote w g base (zs ++ encL [x.op] ++ ((partsN x.op).take k).flatMap (encPart x)) wr

set_option maxHeartbeats 1000000 in
set_option maxRecDepth 100000 in
theorem wins_any (va : Value) (x : InsV) (g base : Nat) (zs : List Int) (w : World) (B : Nat) (hB : B ≤ base) (hB0 : 0 < base) (hbw : base ≤ w.heap.size) (hW : WS w g base zs) (hT : TabP w) (hx : InsI w (· < B) va x) (hargs : x.args.length ≤ 4) (hroom : zs.length + (encIns x).length ≤ 1073741824) :
    Calls Tryd.prog 96 #[.pointer (some ⟨g, 0, none⟩), .agg #[.int .i64 x.op, .int .i64 x.d, .int .i64 x.a, .int .i64 x.b, .int .i64 x.n, .int .i64 x.m, va]] w fun e w' => e = .returned (.tuple #[]) ∧ Wrote w g base (zs ++ encIns x) w' := by
  obtain ⟨hx, hop, hrd, hra, hrb, hrn, hrm⟩ := hx
  have hl1 : (encIns x).length = (encL [x.op]).length + ((partsN x.op).flatMap (encPart x)).length := by unfold encIns; rw [List.length_append]
  have hl2 := fun k => flatMap_take_le (partsN x.op) k (encPart x)
  have HP := hide (fun (W : World) (hW : Below base w W) => parts_any x.op W (hT.below hW hB0) hop)
  have HL := hide (partsN_letter x.op)
  obtain ⟨A, c, rfl, hac, hcm⟩ := hx.open'
  obtain ⟨n, hn⟩ : ∃ n, x.args.length = n := ⟨_, rfl⟩
  rw [hn] at hx hargs ⊢
  have HN := hide hn
  have HX := hide hx
  have HW := hide hW
  have HR := hide hroom
  have HL1 := hide hl1
  have HL2 := hide hl2
  have hgw := hW.lt.2
  have HOP := hide hop
  have HRS := hide (show i64R x.d ∧ i64R x.a ∧ i64R x.b ∧ i64R x.n ∧ i64R x.m from ⟨hrd, hra, hrb, hrn, hrm⟩)
  clear hop hrd hra hrb hrn hrm hW hx hn hT hroom hl1 hl2
  have hp1 := put_any (.slice (some ⟨w.heap.size + 1, 0, none⟩) 1 1) [x.op] g base zs ((w.alloc (.cells (insBox x (.slice A n c)) 41)).alloc (.cells #[.int .i64 x.op] 3)) ((HW.out.alloc _).alloc _)
    (by have := IntsV.lit (w.alloc (.cells (insBox x (.slice A n c)) 41)) [x.op] #[.int .i64 x.op] 3 rfl (by simpa using HOP.out) (by simp); simpa using this) (by simp) (by have := HR.out; omega)
  have H1 := hide hp1
  clear hp1
  go_enter Tryd.func96, Tryd.ntmps96
  go_wp2_with (first
    | (go_at_call 77; refine H1.out.mono ?_; rintro e w1 ⟨rfl, hw1⟩
       have hbx : Box w1 w.heap.size (insBox x (.slice A n c)) 41 := ((Box.new w _ _).alloc _).kept hw1.kept (by omega) (by decide)
       have hw2 := (((Wrote.refl HW.out).alloc (.cells (insBox x (.slice A n c)) 41)).alloc (.cells #[.int .i64 x.op] 3)).trans hw1
       have x0 := (hbx.cell 0 (v := .int .i64 x.op) rfl).1)
    | (go_at_call 10; refine (HP.out _ hw2.below).mono ?_; rintro e w' ⟨rfl, rfl⟩))
  go_loopw [] (fun wr => WInsRel x (.slice A n c) w g base zs w.heap.size w1.heap.size wr) (fun wr => (partsN x.op).length - wr.iterPos w1.heap.size)
  case atStart => exact ⟨0, Nat.zero_le _, World.iter_heap w1 _ 0, hbx.alloc _, (hw2.alloc _).cast (by simp)⟩
  case round =>
    obtain ⟨k, hk, hit, hbr, hwr⟩ := hrel
    have hH := iter_lt hit
    have hsz := hwr.below.size
    have hpos0 := iterPos_of hit
    have hHw : w.heap.size ≤ w1.heap.size := hw2.below.size
    have hlt0 := hbx.lt
    obtain ⟨H, hHe⟩ : ∃ H, w1.heap.size = H := ⟨_, rfl⟩
    have hwH := hw2.below.size
    rw [hHe] at hit hH hwH hpos0 hHw hlt0 ⊢
    by_cases hlt : k < (partsN x.op).length
    · obtain ⟨c0, hc0⟩ : ∃ c0, (partsN x.op)[k]? = some c0 := ⟨_, List.getElem?_eq_getElem hlt⟩
      have hlc := HL.out c0 (List.mem_of_getElem? hc0)
      have hnx : ∀ ty, (Instr.next (.pointer (some ⟨H, 0, none⟩)) true ty).run Tryd.prog wr = _ := fun ty => next_letter wr H k c0 _ ty hit HL.out hc0
      have hit2 := Lib.iterAt_heap wr H (strOf (partsN x.op)) k (k + 1) hit
      have hbx2 := hbr.iter (k := H) (s := strOf (partsN x.op)) (p := k + 1) (by omega)
      have hwI := hwr.iter (p' := k + 1) hit hwH hbw
      obtain ⟨W1, hW1⟩ : ∃ W1, W1 = wr.iterAt H (strOf (partsN x.op)) (k + 1) := ⟨_, rfl⟩
      rw [← hW1] at hnx hit2 hbx2 hwI
      have hfm := flatMap_take (f := encPart x) hc0
      have hle := HL2.out (k + 1)
      rw [hfm, List.length_append] at hle
      have hrm1 := HR.out
      rw [HL1.out] at hrm1
      obtain ⟨pre, hpre⟩ : ∃ pre, zs ++ encL [x.op] ++ ((partsN x.op).take k).flatMap (encPart x) = pre := ⟨_, rfl⟩
      have hpl := congrArg List.length hpre
      simp only [List.length_append] at hpl
      rw [hpre] at hwI
      have HFM := hide (show zs ++ encL [x.op] ++ ((partsN x.op).take (k + 1)).flatMap (encPart x) = pre ++ encPart x c0 by rw [hfm, ← List.append_assoc, hpre])
      have HRM := hide (show pre.length + (encPart x c0).length ≤ 1073741824 by omega)
      have HBX := hide hbx2
      have HIT := hide hit2
      have HWI := hide hwI
      have HK := hide hlt
      have HP0 := hide hpos0
      have y1 := (hbx2.cell 1 (v := .int .i64 x.d) rfl).1
      have y2 := (hbx2.cell 2 (v := .int .i64 x.a) rfl).1
      have y3 := (hbx2.cell 3 (v := .int .i64 x.b) rfl).1
      have y4 := (hbx2.cell 4 (v := .int .i64 x.n) rfl).1
      have y5 := (hbx2.cell 5 (v := .int .i64 x.m) rfl).1
      have y6 := (hbx2.cell 6 (v := .slice A n c) rfl).1
      have hq1 := hbx2.lt
      have hgH : H ≠ g := by omega
      clear hW1 hit hbr hwr hit2 hbx2 hwI hc0 hsz hH hpos0 hlt hfm hle hrm1 hpre hpl hHe hlt0
      unfold isLetter at hlc
      rcases hlc with rfl | rfl | rfl | rfl | rfl | rfl | rfl
      · have hep := hide (show encPart x 68 = encL [x.d] from rfl)
        have hp2 := hide (put_any (.slice (some ⟨W1.heap.size, 0, none⟩) 1 1) [x.d] g base pre (W1.alloc (.cells #[.int .i64 x.d] 3)) (HWI.out.ws.alloc _)
          (by have := IntsV.lit W1 [x.d] #[.int .i64 x.d] 3 rfl (by simpa using HRS.out.1) (by simp); simpa using this) (by simp) (by have := HRM.out; omega))
        go_wp2_with (first
          | (go_at_call 93; refine (field_at _ 68 1 _ (by unfold isLetter; omega) rfl).mono ?_; rintro e w' ⟨rfl, rfl⟩)
          | (go_at_call 77; refine hp2.out.mono ?_; rintro e w3 ⟨rfl, hw3⟩))
        go_roundw
        case rel => exact ⟨k + 1, HK.out, hw3.kept.iter ((Below.heap_alloc _ _ _ (iter_lt HIT.out)).trans HIT.out) hgH, (HBX.out.alloc _).kept hw3.kept (by omega) (by decide), ((HWI.out.alloc _).trans hw3).cast (by rw [HFM.out, hep.out])⟩
        case measure => rw [iterPos_of (hw3.kept.iter ((Below.heap_alloc _ _ _ (iter_lt HIT.out)).trans HIT.out) hgH), HP0.out]; have := HK.out; omega
      · have hep := hide (show encPart x 65 = encL [x.a] from rfl)
        have hp2 := hide (put_any (.slice (some ⟨W1.heap.size, 0, none⟩) 1 1) [x.a] g base pre (W1.alloc (.cells #[.int .i64 x.a] 3)) (HWI.out.ws.alloc _)
          (by have := IntsV.lit W1 [x.a] #[.int .i64 x.a] 3 rfl (by simpa using HRS.out.2.1) (by simp); simpa using this) (by simp) (by have := HRM.out; omega))
        go_wp2_with (first
          | (go_at_call 93; refine (field_at _ 65 2 _ (by unfold isLetter; omega) rfl).mono ?_; rintro e w' ⟨rfl, rfl⟩)
          | (go_at_call 77; refine hp2.out.mono ?_; rintro e w3 ⟨rfl, hw3⟩))
        go_roundw
        case rel => exact ⟨k + 1, HK.out, hw3.kept.iter ((Below.heap_alloc _ _ _ (iter_lt HIT.out)).trans HIT.out) hgH, (HBX.out.alloc _).kept hw3.kept (by omega) (by decide), ((HWI.out.alloc _).trans hw3).cast (by rw [HFM.out, hep.out])⟩
        case measure => rw [iterPos_of (hw3.kept.iter ((Below.heap_alloc _ _ _ (iter_lt HIT.out)).trans HIT.out) hgH), HP0.out]; have := HK.out; omega
      · have hep := hide (show encPart x 66 = encL [x.b] from rfl)
        have hp2 := hide (put_any (.slice (some ⟨W1.heap.size, 0, none⟩) 1 1) [x.b] g base pre (W1.alloc (.cells #[.int .i64 x.b] 3)) (HWI.out.ws.alloc _)
          (by have := IntsV.lit W1 [x.b] #[.int .i64 x.b] 3 rfl (by simpa using HRS.out.2.2.1) (by simp); simpa using this) (by simp) (by have := HRM.out; omega))
        go_wp2_with (first
          | (go_at_call 93; refine (field_at _ 66 3 _ (by unfold isLetter; omega) rfl).mono ?_; rintro e w' ⟨rfl, rfl⟩)
          | (go_at_call 77; refine hp2.out.mono ?_; rintro e w3 ⟨rfl, hw3⟩))
        go_roundw
        case rel => exact ⟨k + 1, HK.out, hw3.kept.iter ((Below.heap_alloc _ _ _ (iter_lt HIT.out)).trans HIT.out) hgH, (HBX.out.alloc _).kept hw3.kept (by omega) (by decide), ((HWI.out.alloc _).trans hw3).cast (by rw [HFM.out, hep.out])⟩
        case measure => rw [iterPos_of (hw3.kept.iter ((Below.heap_alloc _ _ _ (iter_lt HIT.out)).trans HIT.out) hgH), HP0.out]; have := HK.out; omega
      · have hep := hide (show encPart x 78 = encL [x.n] from rfl)
        have hp2 := hide (put_any (.slice (some ⟨W1.heap.size, 0, none⟩) 1 1) [x.n] g base pre (W1.alloc (.cells #[.int .i64 x.n] 3)) (HWI.out.ws.alloc _)
          (by have := IntsV.lit W1 [x.n] #[.int .i64 x.n] 3 rfl (by simpa using HRS.out.2.2.2.1) (by simp); simpa using this) (by simp) (by have := HRM.out; omega))
        go_wp2_with (first
          | (go_at_call 93; refine (field_at _ 78 4 _ (by unfold isLetter; omega) rfl).mono ?_; rintro e w' ⟨rfl, rfl⟩)
          | (go_at_call 77; refine hp2.out.mono ?_; rintro e w3 ⟨rfl, hw3⟩))
        go_roundw
        case rel => exact ⟨k + 1, HK.out, hw3.kept.iter ((Below.heap_alloc _ _ _ (iter_lt HIT.out)).trans HIT.out) hgH, (HBX.out.alloc _).kept hw3.kept (by omega) (by decide), ((HWI.out.alloc _).trans hw3).cast (by rw [HFM.out, hep.out])⟩
        case measure => rw [iterPos_of (hw3.kept.iter ((Below.heap_alloc _ _ _ (iter_lt HIT.out)).trans HIT.out) hgH), HP0.out]; have := HK.out; omega
      · have hep := hide (show encPart x 77 = encL [x.m] from rfl)
        have hp2 := hide (put_any (.slice (some ⟨W1.heap.size, 0, none⟩) 1 1) [x.m] g base pre (W1.alloc (.cells #[.int .i64 x.m] 3)) (HWI.out.ws.alloc _)
          (by have := IntsV.lit W1 [x.m] #[.int .i64 x.m] 3 rfl (by simpa using HRS.out.2.2.2.2) (by simp); simpa using this) (by simp) (by have := HRM.out; omega))
        go_wp2_with (first
          | (go_at_call 93; refine (field_at _ 77 5 _ (by unfold isLetter; omega) rfl).mono ?_; rintro e w' ⟨rfl, rfl⟩)
          | (go_at_call 77; refine hp2.out.mono ?_; rintro e w3 ⟨rfl, hw3⟩))
        go_roundw
        case rel => exact ⟨k + 1, HK.out, hw3.kept.iter ((Below.heap_alloc _ _ _ (iter_lt HIT.out)).trans HIT.out) hgH, (HBX.out.alloc _).kept hw3.kept (by omega) (by decide), ((HWI.out.alloc _).trans hw3).cast (by rw [HFM.out, hep.out])⟩
        case measure => rw [iterPos_of (hw3.kept.iter ((Below.heap_alloc _ _ _ (iter_lt HIT.out)).trans HIT.out) hgH), HP0.out]; have := HK.out; omega
      · have hep := hide (show encPart x 110 = enc (zz x.n) from rfl)
        have hp2 := hide (putSigned_any x.n g base pre W1 HWI.out.ws HRS.out.2.2.2.1 (by have := HRM.out; omega))
        go_wp2_with (go_at_call 106; refine hp2.out.mono ?_; rintro e w3 ⟨rfl, hw3⟩)
        go_roundw
        case rel => exact ⟨k + 1, HK.out, hw3.kept.iter HIT.out hgH, HBX.out.kept hw3.kept (by omega) (by decide), (HWI.out.trans hw3).cast (by rw [HFM.out, hep.out])⟩
        case measure => rw [iterPos_of (hw3.kept.iter HIT.out hgH), HP0.out]; have := HK.out; omega
      · have hep := hide (show encPart x 76 = encL [(n : Int)] ++ encL x.args by unfold encPart; rw [HN.out]; rfl)
        have hrl : pre.length + (encL [(n : Int)]).length ≤ 1073741824 := by have := HRM.out; rw [hep.out, List.length_append] at this; omega
        have hp2 := hide (put_any (.slice (some ⟨W1.heap.size, 0, none⟩) 1 1) [(n : Int)] g base pre (W1.alloc (.cells #[.int .i64 (n : Int)] 3)) (HWI.out.ws.alloc _)
          (by have := IntsV.lit W1 [(n : Int)] #[.int .i64 (n : Int)] 3 rfl (by simp [i64R]; omega) (by simp); simpa using this) (by simp) (by have := HRM.out; omega))
        go_wp2_with (first
          | (go_at_call 77; refine (put_any (.slice A n c) x.args g base (pre ++ encL [(n : Int)]) w3 hw3.ws (HX.out.keep (fun b o hb => (((HWI.out.alloc _).trans hw3).below).cell (p := ⟨b, o, none⟩) (by show b < base; omega)) (fun b hb => by have := ((HWI.out.alloc (.cells #[.int .i64 (n : Int)] 3)).trans hw3).below.size; omega)) (by have := HN.out; omega) (by rw [List.length_append]; omega)).mono ?_; rintro e w4 ⟨rfl, hw4⟩)
          | (go_at_call 77; refine hp2.out.mono ?_; rintro e w3 ⟨rfl, hw3⟩
             have hb3 := (HBX.out.alloc (.cells #[.int .i64 (n : Int)] 3)).kept hw3.kept (by omega) (by decide)
             have HB3 := hide hb3
             have q6 := (hb3.cell 6 (v := .slice A n c) rfl).1
             have q7 := hb3.lt
             clear hb3))
        have hit3 := hw3.kept.iter ((Below.heap_alloc _ _ _ (iter_lt HIT.out)).trans HIT.out) hgH
        go_roundw
        case rel => exact ⟨k + 1, HK.out, hw4.kept.iter hit3 hgH, HB3.out.kept hw4.kept (by omega) (by decide), (((HWI.out.alloc _).trans hw3).trans hw4).cast (by rw [HFM.out, hep.out, List.append_assoc])⟩
        case measure => rw [iterPos_of (hw4.kept.iter hit3 hgH), HP0.out]; have := HK.out; omega
    · have hnx : ∀ ty, (Instr.next (.pointer (some ⟨H, 0, none⟩)) true ty).run Tryd.prog wr = _ := fun ty => next_end wr H k _ ty hit (by omega)
      have hend := hide (hwr.cast (ys := zs ++ encIns x) (by rw [List.take_of_length_le (by omega)]; unfold encIns; rw [List.append_assoc]))
      clear hit hbr hwr hpos0
      go_wp2
      go_end0
      exact ⟨rfl, hend.out⟩
end Go.Proofs.YtpggjolbohffjaaDoor
