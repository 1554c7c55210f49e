/- Layer 16: the last of those that have registers; going to a slot. Condition: no more than 48 spans. -/
import Derived.Test.YtojobajeffipdaaPcQC
set_option linter.unusedSimpArgs false
set_option linter.unusedVariables false
namespace Go.Proofs.Ytojobajeffipdaa
open Go.RowKit

/-- All blocks but g are as they were. -/
def But16 (g : Nat) (w w' : World) : Prop := w.heap.size ≤ w'.heap.size ∧ ∀ b, b < w.heap.size → b ≠ g → w'.heap[b]? = w.heap[b]?
theorem But16.below {g : Nat} {w w' : World} (h : Below w.heap.size w w') : But16 g w w' := ⟨h.size, fun b hb _ => h.block b hb⟩
theorem But16.trans {g : Nat} {a b c : World} (h1 : But16 g a b) (h2 : But16 g b c) : But16 g a c := ⟨Nat.le_trans h1.1 h2.1, fun x hx hg => (h2.2 x (Nat.lt_of_lt_of_le hx h1.1) hg).trans (h1.2 x hx hg)⟩
theorem But16.box {g h : Nat} {w w' : World} {c : Array Value} {T : TypeId} (k : But16 g w w') (b : Box w h c T) (hg : h ≠ g) : Box w' h c T := (k.2 h b.lt hg).trans b
theorem But16.setC {g o : Nat} {w w' : World} (k : But16 g w w') (v : Value) : But16 g w (w'.setCell ⟨g, o, none⟩ v) := ⟨by rw [World.size_setCell]; exact k.1, fun b hb hg => (heap_setCell_other w' ⟨g, o, none⟩ b v hg).trans (k.2 b hb hg)⟩
theorem SpsV.upB {w W : World} {B : Nat} {v : Value} {ss : List SpV} (h : SpsV w (· < B) v ss) (hW : Below B w W) : SpsV W (· < B) v ss := h.keep (fun b o hb => hW.cell (p := ⟨b, o, none⟩) hb) (fun b hb => hb)
theorem SpsV.wide {w : World} {B : Nat} {v : Value} {ss : List SpV} (h : SpsV w (· < B) v ss) (hB : B ≤ w.heap.size) : SpsV w (· < w.heap.size) v ss := h.keep (fun _ _ _ => rfl) (fun b hb => Nat.lt_of_lt_of_le hb hB)
def LcOk (ls : List LcV) : Prop := ∀ x ∈ ls, i64R x.k ∧ i64R x.n
theorem lcs_of_box {w : World} {g n c : Nat} {ls : List LcV} {T : TypeId} (b : Box w g (lcsA ls) T) (hr : LcOk ls) (hn : ls.length = n) (hc : n ≤ c) (hm : c ≤ 1000000) : LcsV w (· < w.heap.size) (.slice (some ⟨g, 0, none⟩) n c) ls := by
  subst hn
  refine ⟨_, _, rfl, hc, by omega, fun hp => ⟨g, 0, rfl, b.lt, fun j x hj => ?_⟩⟩
  have h := b.lc hj
  rw [Nat.zero_add]
  exact ⟨⟨h.1.1, h.2.1⟩, hr x (List.mem_of_getElem? hj)⟩
theorem last_one {ls : List LcV} {ss : List SpV} {i k : Nat} {x : LcV} {y : SpV} {b : Bool} (hx : ls[k]? = some x) (hy : ss[k]? = some y) (h : x.k = 1) (e : endsB16 (spAt ss (lastF ls ss i k)) y = b) : lastF ls ss i (k + 1) = if b = true then k else lastF ls ss i k := by
  rw [lastF, lcAt_of hx, spAt_of hy, e, h]
  simp
theorem last_no {ls : List LcV} {ss : List SpV} {i k : Nat} {x : LcV} (hx : ls[k]? = some x) (h : ¬ x.k = 1) : lastF ls ss i (k + 1) = lastF ls ss i k := by
  rw [lastF, lcAt_of hx, if_neg (fun e => h e.1)]
set_option maxHeartbeats 1000000 in
set_option maxRecDepth 100000 in
theorem qlast_any (bl ol cl n cs i : Nat) (As : Option Addr) (ls : List LcV) (ss : List SpV) (w : World)
    (hl : LcsV w (· < w.heap.size) (.slice (some ⟨bl, ol, none⟩) n cl) ls) (hs : SpsV w (· < w.heap.size) (.slice As n cs) ss) (hln : ls.length = n) (hsn : ss.length = n) (hin : i < n) (hn : n ≤ 48) (hcl : n ≤ cl) (hcm : cl ≤ 1000000) :
    Calls Try.prog 31 #[.agg #[.slice As n cs, .slice (some ⟨bl, ol, none⟩) n cl], .int .i64 (i : Int)] w fun e w' => e = .returned (.int .i64 ((lastF ls ss i i : Nat) : Int)) ∧ Below w.heap.size w w' := by
  obtain ⟨yi, hyi⟩ : ∃ y, ss[i]? = some y := ⟨_, List.getElem?_eq_getElem (by omega)⟩
  obtain ⟨bs, os, rfl, hbs, -⟩ := hs.get hyi
  have HSP := hide (fun (W : World) (hW : Below w.heap.size w W) (j : Nat) (y : SpV) (hy : ss[j]? = some y) => hs.at' hW hy)
  have HLC := hide (fun (W : World) (hW : Below w.heap.size w W) (j : Nat) (y : LcV) (hy : ls[j]? = some y) => hl.at' hW hy)
  have HLN := hide hln
  have HSN := hide hsn
  have hil : i ≤ cl := by omega
  clear hs hl hln hsn hyi hbs
  go_enter Try.func31, Try.ntmps31
  go_upto_region 1 with (fail)
  obtain ⟨w1, hw1⟩ := letr (w.alloc (.cells #[.slice (some ⟨bs, os, none⟩) n cs, .slice (some ⟨bl, ol, none⟩) n cl] 41))
  obtain ⟨h0, hh0⟩ := letl w.heap.size
  have HX0 := lBox hw1 hh0
  have HB1 := lBel hw1
  rw [← hw1, hh0]
  clear hw1 hh0
  have x1 := (HX0.out.cell 1 (v := .slice (some ⟨bl, ol, none⟩) n cl) rfl).1
  have l0 := HX0.out.lt
  go_wp2
  clear x1 l0
  go_loopw [5, 14] (fun a z wr => ∃ k m : Nat, k ≤ i ∧ z = .int .i64 k ∧ a = .int .i64 m ∧ m ≤ i ∧ Below w1.heap.size w1 wr ∧ Hid (lastF ls ss i k = m)) (fun _ z _ => i - (intOf z).toNat)
  case atStart => exact ⟨0, i, Nat.zero_le _, rfl, rfl, Nat.le_refl _, Below.refl _ _, hide rfl⟩
  case round =>
    obtain ⟨k, m, hk, rfl, rfl, hm, hb, hla⟩ := hrel
    obtain ⟨wo, rfl⟩ : ∃ wo, wo = wr := ⟨_, rfl⟩
    have HB := hide hb
    clear hb
    by_cases hlt : k < i
    case neg =>
      have e : k = i := by omega
      subst e
      go_wp2
      go_ret
      exact ⟨by rw [hla.out]; rfl, HB1.out.trans (HB.out.mono HB1.out.size)⟩
    obtain ⟨x, hx⟩ : ∃ y, ls[k]? = some y := ⟨_, List.getElem?_eq_getElem (by have := HLN.out; omega)⟩
    obtain ⟨y, hy⟩ : ∃ y, ss[k]? = some y := ⟨_, List.getElem?_eq_getElem (by have := HSN.out; omega)⟩
    obtain ⟨u, hu⟩ : ∃ y, ss[m]? = some y := ⟨_, List.getElem?_eq_getElem (by have := HSN.out; omega)⟩
    have HBW := hide (HB1.out.trans (HB.out.mono HB1.out.size))
    obtain ⟨c0, c1, cb⟩ := HLC.out wo HBW.out k x hx
    have HL1 := hide (fun (b : Bool) (h : x.k = 1) (e : endsB16 u y = b) => (show lastF ls ss i (k + 1) = if b = true then k else m from by have t := last_one (i := i) hx hy h (show endsB16 (spAt ss (lastF ls ss i k)) y = b by rw [hla.out, spAt_of hu]; exact e); rw [hla.out] at t; exact t))
    have HL0 := hide (fun (h : ¬ x.k = 1) => (show lastF ls ss i (k + 1) = m from by rw [last_no hx h, hla.out]))
    obtain ⟨xk, xn⟩ := x
    obtain ⟨yv, yf, yt, yc⟩ := y
    obtain ⟨uv, uf, ut, uc⟩ := u
    have HSK := hide (fun (W : World) (hW : Below wo.heap.size wo W) => HSP.out W (HBW.out.trans (hW.mono HBW.out.size)) k _ hy)
    have HSU := hide (fun (W : World) (hW : Below wo.heap.size wo W) => HSP.out W (HBW.out.trans (hW.mono HBW.out.size)) m _ hu)
    have HKW := hide (fun (W : World) (hW : Below wo.heap.size wo W) => ((HX0.out.below (HB.out.trans (hW.mono HB.out.size))).cell 0 (v := .slice (some ⟨bs, os, none⟩) n cs) rfl).1)
    have HLW := hide (fun (W : World) (hW : Below wo.heap.size wo W) => (HX0.out.below (HB.out.trans (hW.mono HB.out.size))).lt)
    have hmn : (m : Int) < n := by omega
    have hkn : (k : Int) < n := by omega
    clear hx hy hu hla
    go_upto_region 5 with (fail)
    obtain ⟨w4, hw4⟩ := letr (wo.alloc (.cells #[.int .i64 xk, .int .i64 xn] 37))
    obtain ⟨h4, hh4⟩ := letl wo.heap.size
    have HX := lBox hw4 hh4
    have HB4 := lBel hw4
    rw [← hw4, hh4]
    clear hw4 hh4 c0 c1 cb
    have HC := hide (HB.out.trans (HB4.out.mono HB.out.size))
    have q0 := (HX.out.cell 0 (v := .int .i64 xk) rfl).1
    have lx := HX.out.lt
    by_cases h1 : xk = 1
    rotate_left
    · have HN := hide (HL0.out h1)
      have hd : decide (xk = 1) = false := by simp [h1]
      go_quiet (fail)
      go_wp2
      go_roundw
      case rel => exact ⟨k + 1, m, by omega, by go_num, rfl, hm, below_drewN HC.out _, HN⟩
      case measure => simp [intOf]; omega
    subst h1
    have HM := hide (fun (W : World) => qends_any ⟨uv, uf, ut, uc⟩ ⟨yv, yf, yt, yc⟩ W)
    obtain ⟨b, hbm⟩ := letl (endsB16 ⟨uv, uf, ut, uc⟩ ⟨yv, yf, yt, yc⟩)
    have HN := hide (HL1.out b rfl hbm)
    rw [hbm] at HM
    unfold spA at HM
    have HKR := hide (fun (W : World) (hW : Below w4.heap.size w4 W) => And.intro ((HX.out.below hW).cell 0 (v := .int .i64 1) rfl).1 (And.intro (HKW.out W (HB4.out.trans (hW.mono HB4.out.size))) (And.intro (HSK.out W (HB4.out.trans (hW.mono HB4.out.size))) (HSU.out W (HB4.out.trans (hW.mono HB4.out.size))))))
    clear hbm q0 lx
    have HKS := hide (fun (W : World) (hW : Below w4.heap.size w4 W) => (show W.cell? ⟨h4, 0, none⟩ = some (.int .i64 1) ∧ W.cell? ⟨h0, 0, none⟩ = some (.slice (some ⟨bs, os, none⟩) n cs) ∧ W.cell? ⟨bs, os + m * 4, none⟩ = some (.int .i64 uv) ∧ W.cell? ⟨bs, os + m * 4 + 1, none⟩ = some (.int .i64 uf) ∧ W.cell? ⟨bs, os + m * 4 + 2, none⟩ = some (.int .i64 ut) ∧ W.cell? ⟨bs, os + m * 4 + 3, none⟩ = some (.bool uc) ∧ W.cell? ⟨bs, os + k * 4, none⟩ = some (.int .i64 yv) ∧ W.cell? ⟨bs, os + k * 4 + 1, none⟩ = some (.int .i64 yf) ∧ W.cell? ⟨bs, os + k * 4 + 2, none⟩ = some (.int .i64 yt) ∧ W.cell? ⟨bs, os + k * 4 + 3, none⟩ = some (.bool yc) from by obtain ⟨q0, k0, ⟨s0, s1, s2, s3, -⟩, ⟨i0, i1, i2, i3, -⟩⟩ := HKR.out W hW; exact ⟨q0, k0, i0, i1, i2, i3, s0, s1, s2, s3⟩))
    have BE0 := hide (show Below w4.heap.size w4 w4.drew from below_drewN (Below.refl _ _) 1)
    clear HSK HSU HKW HLW
    refine wp_region_til (fun w' => w'.cell? ⟨h4, 0, none⟩ = some (.int .i64 1) ∧ w'.cell? ⟨h0, 0, none⟩ = some (.slice (some ⟨bs, os, none⟩) n cs) ∧ w'.cell? ⟨bs, os + m * 4, none⟩ = some (.int .i64 uv) ∧ w'.cell? ⟨bs, os + m * 4 + 1, none⟩ = some (.int .i64 uf) ∧ w'.cell? ⟨bs, os + m * 4 + 2, none⟩ = some (.int .i64 ut) ∧ w'.cell? ⟨bs, os + m * 4 + 3, none⟩ = some (.bool uc) ∧ w'.cell? ⟨bs, os + k * 4, none⟩ = some (.int .i64 yv) ∧ w'.cell? ⟨bs, os + k * 4 + 1, none⟩ = some (.int .i64 yf) ∧ w'.cell? ⟨bs, os + k * 4 + 2, none⟩ = some (.int .i64 yt) ∧ w'.cell? ⟨bs, os + k * 4 + 3, none⟩ = some (.bool yc)) 14 (by kernel_rfl) (HKS.out _ BE0.out) ?_
    obtain ⟨w100, hw100⟩ : ∃ w100, w100 = w4.drew := ⟨_, rfl⟩
    have BE100 := hide (show Below w4.heap.size w4 w100 by rw [hw100]; exact BE0.out)
    rw [← hw100]
    have hSd := HKS.out w100 BE100.out
    clear hw100
    refine tilM 0 (Or.inr hSd) ?_
    refine tilD 1 [14, 3, 2] hSd ?_
    refine tilM 2 (Or.inr hSd) ?_
    refine tilM 3 (Or.inr hSd) ?_
    refine tilM 4 (Or.inr hSd) ?_
    refine tilM 6 (Or.inr hSd) ?_
    refine tilM 9 (Or.inr hSd) ?_
    refine tilM 11 (Or.inr hSd) ?_
    refine tilD 5 [14, 8, 7] hSd ?_
    refine tilM 7 (Or.inr hSd) ?_
    refine tilT 8 hSd ?_
    refine tilD 10 [14, 13, 12] hSd ?_
    refine tilM 12 (Or.inr hSd) ?_
    refine tilT 13 hSd ?_
    refine wpTil_ready (rs := [14]) (by kernel_rfl) (by simp) ?_
    refine AllTil.last rfl (by rfl) (fun K hK => ?_)
    rw [if_pos (by rfl)]
    go_simp
    go_at_call 36
    (with_reducible refine (HM.out w100).mono ?_)
    rintro e w101 ⟨rfl, hb2⟩
    have BE101 := hide (BE100.out.trans (hb2.mono BE100.out.size))
    clear hb2
    refine hK.out _ _ ?_
    clear hK K hSd
    try simp only [tilS, Act.put]
    refine tilM 15 (Or.inl (by rfl)) ?_
    refine wpTil_done (by kernel_rfl) ?_ _
    cases b
    · go_wp2
      go_roundw
      case rel => exact ⟨k + 1, m, by omega, by go_num, rfl, hm, HC.out.trans (BE101.out.mono HC.out.size), hide (by rw [HN.out]; simp)⟩
      case measure => simp [intOf]; omega
    · go_wp2
      go_roundw
      case rel => exact ⟨k + 1, k, by omega, by go_num, rfl, by omega, HC.out.trans (BE101.out.mono HC.out.size), hide (by rw [HN.out]; simp)⟩
      case measure => simp [intOf]; omega
set_option maxHeartbeats 1000000 in
set_option maxRecDepth 100000 in
theorem qtoslot_any (gl cl n cs i B : Nat) (As : Option Addr) (ls : List LcV) (ss : List SpV) (w : World)
    (hl : Box w gl (lcsA ls) 37) (hok : LcOk ls) (hs : SpsV w (· < B) (.slice As n cs) ss) (hln : ls.length = n) (hsn : ss.length = n) (hin : i < n) (hn : n ≤ 48) (hcl : n ≤ cl) (hcm : cl ≤ 1000000) (hB : B ≤ gl) :
    Calls Try.prog 29 #[.agg #[.slice As n cs, .slice (some ⟨gl, 0, none⟩) n cl], .int .i64 (i : Int)] w fun e w' => e = .returned (.tuple #[]) ∧ Box w' gl (lcsA (putL ls ss i)) 37 ∧ Below B w w' ∧ But16 gl w w' := by
  have hgl := hl.lt
  have HLE := hide (fun (W : World) (hW : Below w.heap.size w W) => qleast_any gl 0 cl n cs i 2 As ls ss W (lcs_of_box (hl.below hW) hok hln hcl hcm) ((hs.wide (by omega)).up hW) hln hsn hin hn)
  have HLB := hide (fun (W : World) (hW : Below w.heap.size w W) => hl.below hW)
  have HP := hide (show putL ls ss i = ls.set i ⟨2, ((leastN ls ss 2 (spAt ss i) : Nat) : Int)⟩ from rfl)
  obtain ⟨x, hx⟩ : ∃ y, ls[i]? = some y := ⟨_, List.getElem?_eq_getElem (by omega)⟩
  have HFR := hide (fun (W : World) (hW : Below w.heap.size w W) => (hl.below hW).lc hx)
  obtain ⟨z, hz⟩ := letl (leastN ls ss 2 (spAt ss i))
  rw [hz] at HLE HP
  clear hz hl hok hs hln hsn hx
  go_enter Try.func29, Try.ntmps29
  go_upto_region 1 with (fail)
  obtain ⟨w1, hw1⟩ := letr (w.alloc (.cells #[.slice As n cs, .slice (some ⟨gl, 0, none⟩) n cl] 41))
  obtain ⟨h0, hh0⟩ := letl w.heap.size
  have HX0 := lBox hw1 hh0
  have HB1 := lBel hw1
  rw [← hw1, hh0]
  clear hw1 hh0
  have HKS := hide (fun (W : World) (hW : Below w1.heap.size w1 W) => (show W.cell? ⟨h0, 0, none⟩ = some (.slice As n cs) ∧ W.cell? ⟨h0, 1, none⟩ = some (.slice (some ⟨gl, 0, none⟩) n cl) from ⟨((HX0.out.below hW).cell 0 (v := .slice As n cs) rfl).1, ((HX0.out.below hW).cell 1 (v := .slice (some ⟨gl, 0, none⟩) n cl) rfl).1⟩))
  have BE0 := hide (show Below w1.heap.size w1 w1.drew from below_drewN (Below.refl _ _) 1)
  refine wp_region_til (fun w' => w'.cell? ⟨h0, 0, none⟩ = some (.slice As n cs) ∧ w'.cell? ⟨h0, 1, none⟩ = some (.slice (some ⟨gl, 0, none⟩) n cl)) 8 (by kernel_rfl) (HKS.out _ BE0.out) ?_
  obtain ⟨w100, hw100⟩ : ∃ w100, w100 = w1.drew := ⟨_, rfl⟩
  have BE100 := hide (show Below w1.heap.size w1 w100 by rw [hw100]; exact BE0.out)
  rw [← hw100]
  have hSd := HKS.out w100 BE100.out
  clear hw100
  refine tilM 0 (Or.inr hSd) ?_
  refine tilM 2 (Or.inr hSd) ?_
  refine tilM 4 (Or.inr hSd) ?_
  refine tilT 1 hSd ?_
  refine tilT 3 hSd ?_
  refine wpTil_ready (rs := [5]) (by kernel_rfl) (by simp) ?_
  refine AllTil.cons rfl (fun K hK => ?_) ?_
  · skip
    rw [if_pos (by rfl)]
    go_simp
    go_at_call 30
    (with_reducible refine (HLE.out w100 (HB1.out.trans (BE100.out.mono HB1.out.size))).mono ?_)
    rintro e w101 ⟨rfl, hb2⟩
    have BE101 := hide (BE100.out.trans (hb2.mono BE100.out.size))
    clear hb2
    refine hK.out _ _ (HKS.out w101 BE101.out) ?_
    clear hK K
    try clear hSd
    have hSd := HKS.out w101 BE101.out
    try simp only [tilS, Act.put]
    refine tilM 6 (Or.inr hSd) ?_
    refine tilM 7 (Or.inr hSd) ?_
    refine wpTil_ready (rs := [8]) (by kernel_rfl) (by simp) ?_
    refine AllTil.last rfl (by rfl) (fun K hK => ?_)
    obtain ⟨⟨c0, f0⟩, c1, f1⟩ := HFR.out w101 (HB1.out.trans (BE101.out.mono HB1.out.size))
    have lg : gl < w101.heap.size := Nat.lt_of_lt_of_le hgl (HB1.out.trans (BE101.out.mono HB1.out.size)).size
    rw [if_pos (by rfl)]
    go_simp
    obtain ⟨w102, hw102⟩ := letr ((w101.setCell ⟨gl, i * 2, none⟩ (.int .i64 2)).setCell ⟨gl, i * 2 + 1, none⟩ (.int .i64 (z : Int)))
    have HBX := hide (show Box w102 gl (lcsA (putL ls ss i)) 37 by rw [HP.out, hw102]; exact (HLB.out w101 (HB1.out.trans (BE101.out.mono HB1.out.size))).lcSet i 2 (z : Int))
    have HBE := hide (show Below B w w102 by rw [hw102]; exact (((HB1.out.trans (BE101.out.mono HB1.out.size)).mono (by omega)).setCell (p := ⟨gl, i * 2, none⟩) hB _).setCell (p := ⟨gl, i * 2 + 1, none⟩) hB _)
    have HBU := hide (show But16 gl w w102 by rw [hw102]; exact ((But16.below (HB1.out.trans (BE101.out.mono HB1.out.size))).setC _).setC _)
    rw [← hw102]
    clear hw102 c0 f0 c1 f1 lg
    refine hK.out _ _ ?_
    clear hK K hSd
    try simp only [tilS, Act.put]
    refine wpTil_done (by kernel_rfl) ?_ _
    go_wp2_with fail
    go_end0
    exact ⟨rfl, HBX.out, HBE.out, HBU.out⟩
  exact AllTil.nil
end Go.Proofs.Ytojobajeffipdaa
