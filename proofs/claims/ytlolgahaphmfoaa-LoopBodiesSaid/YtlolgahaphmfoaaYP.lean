/- The tree of next aboves in memory: what its methods has and meet answer. Conditions: its two blocks hold a list of next aboves, and the turns. -/
import Derived.Test.YtlolgahaphmfoaaYX
set_option linter.unusedSimpArgs false
set_option linter.unusedVariables false
namespace Go.Proofs.Ytlolgahaphmfoaa
open Go.RowKit

def AbW (w : World) (ga : Nat) (A : List Int) : Prop := Box w ga ((A.map (Value.int .i64)).toArray) 3
theorem AbW.cell {w : World} {ga b : Nat} {A : List Int} (h : AbW w ga A) (hb : b < A.length) : w.cell? ⟨ga, b, none⟩ = some (.int .i64 (A.getD b (-1))) ∧ w.frozen? ⟨ga, b, none⟩ = false :=
  Box.cell h b (by simp [List.getD, hb])
theorem AbW.set {w : World} {ga : Nat} {A : List Int} (h : AbW w ga A) (b : Nat) (r : Int) : AbW (w.setCell ⟨ga, b, none⟩ (.int .i64 r)) ga (A.set b r) := by
  have := Box.set h b (.int .i64 r)
  unfold AbW
  rw [List.map_set]
  simpa using this
theorem AbW.below {w w' : World} {ga : Nat} {A : List Int} (h : AbW w ga A) (hb : Below w.heap.size w w') : AbW w' ga A := Box.below h hb
def TnW (w : World) (gt n : Nat) (tn : Nat → Nat) : Prop := Box w gt (((List.range n).map (fun b : Nat => Value.int .i64 ((tn b : Nat) : Int))).toArray) 3
theorem TnW.cell {w : World} {gt n b : Nat} {tn : Nat → Nat} (h : TnW w gt n tn) (hb : b < n) : w.cell? ⟨gt, b, none⟩ = some (.int .i64 ((tn b : Nat) : Int)) ∧ w.frozen? ⟨gt, b, none⟩ = false :=
  Box.cell h b (by simp [hb])
theorem TnW.below {w w' : World} {gt n : Nat} {tn : Nat → Nat} (h : TnW w gt n tn) (hb : Below w.heap.size w w') : TnW w' gt n tn := Box.below h hb
def hasA (A : List Int) (z : Int) : Bool := decide (z = 0 ∧ 0 < A.length ∨ 0 < z ∧ z < A.length ∧ A.getD z.toNat (-1) ≠ -1)
theorem hasA_iff {A : List Int} {z : Int} (h1 : 1 ≤ A.length) (hz : 0 ≤ z) : hasA A z = true ↔ inA A z.toNat := by
  unfold hasA inA
  rw [decide_eq_true_iff]
  constructor
  · rintro (⟨rfl, -⟩ | ⟨h0, h2, h3⟩)
    · exact .inl rfl
    · exact .inr h3
  · rintro (h | h)
    · exact .inl ⟨by omega, by omega⟩
    · have : z.toNat < A.length := by
        rcases Nat.lt_or_ge z.toNat A.length with h4 | h4
        · exact h4
        · exact absurd (by simp [List.getD, List.getElem?_eq_none h4]) h
      by_cases h0 : z = 0
      · exact .inl ⟨h0, by omega⟩
      · exact .inr ⟨by omega, by omega, h⟩
set_option maxHeartbeats 1000000 in
set_option maxRecDepth 100000 in
theorem dhas_any (A : List Int) (z : Int) (ga gt n : Nat) (w : World) (hA : AbW w ga A) (hn : A.length = n) (h1 : 1 ≤ n) :
    Calls Try.prog 44 #[.agg #[.slice (some ⟨ga, 0, none⟩) n n, .slice (some ⟨gt, 0, none⟩) n n], .int .i64 z] w fun e w' => e = .returned (.bool (hasA A z)) ∧ Below w.heap.size w w' := by
  rcases Int.lt_trichotomy z 0 with hz | hz | hz
  · rw [show hasA A z = false by unfold hasA; simp; omega]
    have q0 : (z == 0) = false := by first | (simp; done) | (simp; omega)
    have q1 : ¬ 0 < z := by omega
    clear hA hn h1 hz
    go_enter Try.func44, Try.ntmps44
    go_wp2
    go_ret
    exact ⟨rfl, alloc1 w _⟩
  · subst hz
    rw [show hasA A 0 = true by unfold hasA; simp; omega]
    have hp : 0 < n := by omega
    clear hA hn
    go_enter Try.func44, Try.ntmps44
    go_wp2
    go_ret
    exact ⟨rfl, alloc1 w _⟩
  · obtain ⟨k, rfl⟩ : ∃ k : Nat, z = k := ⟨z.toNat, by omega⟩
    have hk0 : 0 < k := by omega
    have q0 : ((k : Int) == 0) = false := by first | (simp; done) | (simp; omega)
    by_cases hk : k < n
    · obtain ⟨c1, -⟩ := hA.cell (b := k) (by omega)
      have hga := Box.lt hA
      have hval : hasA A (k : Int) = !(A.getD k (-1) == -1) := by
        unfold hasA
        have : ¬ (k : Int) = 0 := by omega
        simp [this, hk0]
        rw [Bool.eq_iff_iff]
        simp
        omega
      rw [hval]
      generalize A.getD k (-1) = y at *
      clear hA hn hval
      go_enter Try.func44, Try.ntmps44
      go_upto_region 1 with (fail)
      obtain ⟨w1, hw1⟩ : ∃ w1, w1 = w.alloc (.cells #[.slice (some ⟨ga, 0, none⟩) n n, .slice (some ⟨gt, 0, none⟩) n n] 62) := ⟨_, rfl⟩
      obtain ⟨g1, hg1⟩ : ∃ g1, w.heap.size = g1 := ⟨_, rfl⟩
      have HX1 := hide (show Box w1 g1 #[.slice (some ⟨ga, 0, none⟩) n n, .slice (some ⟨gt, 0, none⟩) n n] 62 by rw [hw1, ← hg1]; exact Box.new w _ _)
      have HB1 := hide (show Below w.heap.size w w1 by rw [hw1]; exact alloc1 w _)
      have d1 := (HB1.out.cell (p := ⟨ga, k, none⟩) hga).trans c1
      rw [← hw1, hg1]
      clear hw1
      have l1 := HX1.out.lt
      have e0 := (HX1.out.cell 0 (v := .slice (some ⟨ga, 0, none⟩) n n) rfl).1
      have hgl : ga < w1.heap.size := by omega
      clear c1 hg1
      by_cases hy : y = -1
      · subst hy
        go_wp2
        go_ret
        exact ⟨rfl, HB1.out⟩
      · have q2 : (y == -1) = false := by simpa using hy
        go_wp2
        go_ret
        exact ⟨rfl, HB1.out⟩
    · rw [show hasA A (k : Int) = false by unfold hasA; simp; omega]
      clear hA hn
      go_enter Try.func44, Try.ntmps44
      go_wp2
      go_ret
      exact ⟨rfl, alloc1 w _⟩
set_option maxHeartbeats 1000000 in
set_option maxRecDepth 100000 in
theorem dmeet_any (A : List Int) (tn : Nat → Nat) (x0 y0 m : Nat) (ga gt n : Nat) (w : World) (hA : AbW w ga A) (hn : A.length = n) (hn40 : n ≤ 40) (hT : TnW w gt n tn) (htr : Tr tn (inA A) (upA A))
    (hneg : ∀ b, A.getD b (-1) ≠ -1 → 0 ≤ A.getD b (-1)) (hlt : ∀ b, inA A b → b < n) (hx : inA A x0) (hy : inA A y0) (hm : MeetR tn (upA A) x0 y0 m) :
    Calls Try.prog 45 #[.agg #[.slice (some ⟨ga, 0, none⟩) n n, .slice (some ⟨gt, 0, none⟩) n n], .int .i64 (x0 : Int), .int .i64 (y0 : Int)] w fun e w' => e = .returned (.int .i64 (m : Int)) ∧ Below w.heap.size w w' := by
  have HST := hide (show inA A x0 ∧ inA A y0 ∧ MeetR tn (upA A) x0 y0 m from ⟨hx, hy, hm⟩)
  have HTR := hide htr
  have HAB := hide hA
  have HTN := hide hT
  have HLT := hide hlt
  have HLN := hide hn
  have HUP := hide (show ∀ b, inA A b → b ≠ 0 → A.getD b (-1) = ((upA A b : Nat) : Int) from fun b hb h0 => by
    have := hneg b (hb.resolve_left h0)
    unfold upA
    omega)
  have hga := Box.lt hA
  have hgt := Box.lt hT
  clear hA hn hT htr hneg hlt hx hy hm
  go_enter Try.func45, Try.ntmps45
  go_upto_region 1 with (fail)
  obtain ⟨w1, hw1⟩ : ∃ w1, w1 = w.alloc (.cells #[.slice (some ⟨ga, 0, none⟩) n n, .slice (some ⟨gt, 0, none⟩) n n] 62) := ⟨_, rfl⟩
  obtain ⟨g1, hg1⟩ : ∃ g1, w.heap.size = g1 := ⟨_, rfl⟩
  have HX1 := hide (show Box w1 g1 #[.slice (some ⟨ga, 0, none⟩) n n, .slice (some ⟨gt, 0, none⟩) n n] 62 by rw [hw1, ← hg1]; exact Box.new w _ _)
  have HB1 := hide (show Below w.heap.size w w1 by rw [hw1]; exact alloc1 w _)
  have HA1 := hide (HAB.out.below HB1.out)
  have HT1 := hide (HTN.out.below HB1.out)
  rw [← hw1, hg1]
  clear hw1
  have l1 := HX1.out.lt
  have hga1 : ga < w1.heap.size := by omega
  have hgt1 : gt < w1.heap.size := by omega
  clear hga hgt hg1
  go_loopw [1, 2] (fun a b wr => ∃ (x y : Nat), a = .int .i64 (x : Int) ∧ b = .int .i64 (y : Int) ∧ Below w1.heap.size w1 wr ∧ Hid (inA A x ∧ inA A y ∧ MeetR tn (upA A) x y m)) (fun a b _ => tn (intOf a).toNat + tn (intOf b).toNat)
  case atStart => exact ⟨x0, y0, rfl, rfl, Below.refl _ _, HST⟩
  case round =>
    obtain ⟨x, y, rfl, rfl, hb, hin⟩ := hrel
    obtain ⟨wo, rfl⟩ : ∃ wo, wo = wr := ⟨_, rfl⟩
    have HBO := hide hb
    have hsz := hb.size
    clear hb
    by_cases he : x = y
    · subst he
      have HM := hide (show x = m by
        have h := hin.out.2.2
        cases h with
        | same => rfl
        | left h0 _ _ => exact absurd rfl h0
        | right h0 _ _ => exact absurd rfl h0)
      go_wp2
      go_ret
      exact ⟨ret_int (by rw [HM.out]), HB1.out.trans (HBO.out.mono HB1.out.size)⟩
    have q0 : ((x : Int) == (y : Int)) = false := by first | (simp; done) | (simp; omega)
    have HNE := hide he
    have hxn := HLT.out x hin.out.1
    have hyn := HLT.out y hin.out.2.1
    have HXO := hide (HX1.out.below HBO.out)
    have HAO := hide (HA1.out.below HBO.out)
    have HTO := hide (HT1.out.below HBO.out)
    have lo := HXO.out.lt
    have la : ga < wo.heap.size := by omega
    have lt : gt < wo.heap.size := by omega
    have ct := (HXO.out.cell 1 (v := .slice (some ⟨gt, 0, none⟩) n n) rfl).1
    have ca := (HXO.out.cell 0 (v := .slice (some ⟨ga, 0, none⟩) n n) rfl).1
    have t1 := (HTO.out.cell (b := x) hxn).1
    have t2 := (HTO.out.cell (b := y) hyn).1
    by_cases hl : tn y < tn x
    · have HL := hide hl
      have hx0 := HTR.out.meet_l hin.out.1 hl
      have hu := HUP.out x hin.out.1 hx0
      have a1 := (HAO.out.cell (b := x) (by rw [HLN.out]; exact hxn)).1
      rw [hu] at a1
      obtain ⟨u, hu⟩ : ∃ u, upA A x = u := ⟨_, rfl⟩
      have HNX := hide (show inA A u ∧ inA A y ∧ MeetR tn (upA A) u y m by
        rw [← hu]
        refine ⟨(HTR.out.lt x hin.out.1 hx0).1, hin.out.2.1, ?_⟩
        have h := hin.out.2.2
        cases h with
        | same => exact absurd rfl HNE.out
        | left _ _ h => exact h
        | right _ h1 _ => exact absurd HL.out h1)
      have HMS := hide (show tn u < tn x by rw [← hu]; exact (HTR.out.lt x hin.out.1 hx0).2)
      rw [hu] at a1
      clear hu he hx0 hin
      obtain ⟨tx, htx⟩ : ∃ tx, tn x = tx := ⟨_, rfl⟩
      obtain ⟨ty, hty⟩ : ∃ ty, tn y = ty := ⟨_, rfl⟩
      rw [htx] at t1 hl
      rw [hty] at t2 hl
      have HTX := hide htx
      clear htx hty
      go_upto_region 2 with (fail)
      go_quiet (fail)
      go_wp2
      go_roundw
      case rel => exact ⟨u, y, rfl, rfl, below_drewN HBO.out _, HNX⟩
      case measure => have := HMS.out; simp [intOf]; omega
    · have HL := hide hl
      have hy0 := (HTR.out.meet_r hin.out.1 hin.out.2.1 HNE.out hl).1
      have hu := HUP.out y hin.out.2.1 hy0
      have a1 := (HAO.out.cell (b := y) (by rw [HLN.out]; exact hyn)).1
      rw [hu] at a1
      obtain ⟨u, hu⟩ : ∃ u, upA A y = u := ⟨_, rfl⟩
      have HNX := hide (show inA A x ∧ inA A u ∧ MeetR tn (upA A) x u m by
        rw [← hu]
        refine ⟨hin.out.1, (HTR.out.lt y hin.out.2.1 hy0).1, ?_⟩
        have h := hin.out.2.2
        cases h with
        | same => exact absurd rfl HNE.out
        | left _ h1 _ => exact absurd h1 HL.out
        | right _ _ h => exact h)
      have HMS := hide (show tn u < tn y by rw [← hu]; exact (HTR.out.lt y hin.out.2.1 hy0).2)
      rw [hu] at a1
      clear hu he hy0 hin
      obtain ⟨tx, htx⟩ : ∃ tx, tn x = tx := ⟨_, rfl⟩
      obtain ⟨ty, hty⟩ : ∃ ty, tn y = ty := ⟨_, rfl⟩
      rw [htx] at t1 hl
      rw [hty] at t2 hl
      have HTX := hide hty
      clear htx hty
      go_upto_region 2 with (fail)
      go_quiet (fail)
      go_wp2
      go_roundw
      case rel => exact ⟨x, u, rfl, rfl, below_drewN HBO.out _, HNX⟩
      case measure => have := HMS.out; simp [intOf]; omega
end Go.Proofs.Ytlolgahaphmfoaa
namespace Go.Proofs.Ytlolgahaphmfoaa
open Go.RowKit

set_option maxHeartbeats 1000000 in
set_option maxRecDepth 100000 in
theorem djoin_any (A : List Int) (tn : Nat → Nat) (l : List Int) (r : Int) (ga gt n : Nat) (Al : Option Addr) (cl : Nat) (w : World) (hA : AbW w ga A) (hn : A.length = n) (h1 : 1 ≤ n) (hn40 : n ≤ 40) (hT : TnW w gt n tn) (htr : Tr tn (inA A) (upA A))
    (hneg : ∀ b, A.getD b (-1) ≠ -1 → 0 ≤ A.getD b (-1)) (hlt : ∀ b, inA A b → b < n) (hl : Sl w w.heap.size .i64 Al l) (hl0 : ∀ b ∈ l, 0 ≤ b) (hll : l.length ≤ 1000) (hc : l.length ≤ cl) (hcm : cl ≤ 9223372036854775807) (hj : joinA tn A l r) :
    Calls Try.prog 74 #[.agg #[.slice (some ⟨ga, 0, none⟩) n n, .slice (some ⟨gt, 0, none⟩) n n], .slice Al l.length cl] w fun e w' => e = .returned (.int .i64 r) ∧ Below w.heap.size w w' := by
  have HST := hide (show ((-1 : Int) = -1 ∨ 0 ≤ (-1 : Int) ∧ inA A (-1 : Int).toNat) ∧ JoinR tn (upA A) (inA A) (l.drop 0) (-1) r from ⟨.inl rfl, hj⟩)
  have HHAS := hide (fun (W : World) (hW : Below w.heap.size w W) (b : Nat) => dhas_any A (b : Int) ga gt n W (hA.below hW) hn h1)
  have HMT := hide (fun (W : World) (hW : Below w.heap.size w W) (x y m : Nat) hx hy hm => dmeet_any A tn x y m ga gt n W (hA.below hW) hn hn40 (hT.below hW) htr hneg hlt hx hy hm)
  have HTR := hide htr
  have HIF := hide (fun b : Nat => hasA_iff (A := A) (z := (b : Int)) (by omega) (by omega))
  have HL := hide hl
  have HL0 := hide hl0
  obtain ⟨nl, hnl⟩ : ∃ nl, l.length = nl := ⟨_, rfl⟩
  have HNL := hide hnl
  rw [hnl] at hll hc ⊢
  clear hA hn hT htr hneg hlt hl hl0 hj hnl
  go_enter Try.func74, Try.ntmps74
  go_upto_region 1 with (fail)
  obtain ⟨w1, hw1⟩ : ∃ w1, w1 = w.alloc (.cells #[.slice (some ⟨ga, 0, none⟩) n n, .slice (some ⟨gt, 0, none⟩) n n] 62) := ⟨_, rfl⟩
  obtain ⟨g1, hg1⟩ : ∃ g1, w.heap.size = g1 := ⟨_, rfl⟩
  have HX1 := hide (show Box w1 g1 #[.slice (some ⟨ga, 0, none⟩) n n, .slice (some ⟨gt, 0, none⟩) n n] 62 by rw [hw1, ← hg1]; exact Box.new w _ _)
  have HB1 := hide (show Below w.heap.size w w1 by rw [hw1]; exact alloc1 w _)
  rw [← hw1, hg1]
  clear hw1
  have l1 := HX1.out.lt
  clear hg1
  go_wp2
  go_loopw [5, 10] (fun u i wr => ∃ (z : Int) (k : Nat), u = .int .i64 z ∧ k ≤ nl ∧ i = .int .i64 (k : Int) ∧ Below w1.heap.size w1 wr ∧ Hid ((z = -1 ∨ 0 ≤ z ∧ inA A z.toNat) ∧ JoinR tn (upA A) (inA A) (l.drop k) z r)) (fun _ i _ => nl - (intOf i).toNat)
  case atStart => exact ⟨-1, 0, rfl, Nat.zero_le _, rfl, Below.refl _ _, hide ⟨.inl rfl, HST.out.2⟩⟩
  case round =>
    obtain ⟨z, k, rfl, hk, rfl, hb, hin⟩ := hrel
    obtain ⟨wo, rfl⟩ : ∃ wo, wo = wr := ⟨_, rfl⟩
    have HBO := hide hb
    have hsz := hb.size
    have HBW := hide (HB1.out.trans (hb.mono HB1.out.size))
    clear hb
    by_cases hlt : k < nl
    case neg =>
      have HR := hide (show z = r by
        have h := hin.out.2
        rw [List.drop_eq_nil_of_le (by have := HNL.out; omega)] at h
        cases h
        rfl)
      go_wp2
      go_ret
      exact ⟨ret_int HR.out, HBW.out⟩
    obtain ⟨y, hy⟩ : ∃ y, l[k]? = some y := ⟨_, List.getElem?_eq_getElem (by have := HNL.out; omega)⟩
    have hy0 := HL0.out y (List.mem_of_getElem? hy)
    obtain ⟨b, rfl⟩ : ∃ b : Nat, y = b := ⟨y.toNat, by omega⟩
    have hdr : l.drop k = (b : Int) :: l.drop (k + 1) := by
      have hkl := (List.getElem?_eq_some_iff.1 hy).1
      rw [List.drop_eq_getElem_cons hkl, (List.getElem?_eq_some_iff.1 hy).2]
    obtain ⟨be, oe, rfl, hbe, hce⟩ := HL.out (by have := HNL.out; omega)
    have d1 := (HBW.out.cell (p := ⟨be, oe + k, none⟩) hbe).trans (hce k (by have := HNL.out; omega))
    rw [show l.getD k 0 = (b : Int) by simp [List.getD, hy]] at d1
    have hbs : be < wo.heap.size := by have := HBW.out.size; omega
    have HXO := hide (HX1.out.below HBO.out)
    have lo := HXO.out.lt
    have e0 := (HXO.out.cell 0 (v := .slice (some ⟨ga, 0, none⟩) n n) rfl).1
    have e1 := (HXO.out.cell 1 (v := .slice (some ⟨gt, 0, none⟩) n n) rfl).1
    obtain ⟨hu, hJ⟩ := hin.out
    rw [hdr] at hJ
    clear hin hce hbe hy hy0 hdr
    by_cases hI : inA A b
    case neg =>
      have hq : hasA A (b : Int) = false := by
        rw [Bool.eq_false_iff]; intro h; exact hI (by have := (HIF.out b).1 h; simpa using this)
      have HN := hide (show (z = -1 ∨ 0 ≤ z ∧ inA A z.toNat) ∧ JoinR tn (upA A) (inA A) (l.drop (k + 1)) z r from ⟨hu, by
        cases hJ with
        | skip _ h => exact h
        | first h _ => exact absurd h (by simpa using hI)
        | more h _ _ _ => exact absurd h (by simpa using hI)⟩)
      have HC := hide (HHAS.out wo HBW.out b)
      rw [hq] at HC
      clear hu hJ hI hq
      go_wp2_with (go_at_call 44; refine (HC.out).mono ?_; rintro e w3 ⟨rfl, hb3⟩)
      go_roundw
      case rel => exact ⟨z, k + 1, rfl, by omega, by go_num, HBO.out.trans (hb3.mono hsz), HN⟩
      case measure => simp [intOf]; omega
    have hq : hasA A (b : Int) = true := (HIF.out b).2 (by simpa using hI)
    have HC := hide (HHAS.out wo HBW.out b)
    rw [hq] at HC
    by_cases hz : z = -1
    · subst hz
      have HN := hide (show (((b : Nat) : Int) = -1 ∨ 0 ≤ ((b : Nat) : Int) ∧ inA A ((b : Nat) : Int).toNat) ∧ JoinR tn (upA A) (inA A) (l.drop (k + 1)) (b : Int) r from ⟨.inr ⟨by omega, by simpa using hI⟩, by
        cases hJ with
        | skip h _ => exact absurd (by simpa using hI) h
        | first _ h => exact h
        | more _ h _ _ => exact absurd rfl h⟩)
      clear hu hJ hI hq
      go_wp2_with (go_at_call 44; refine (HC.out).mono ?_; rintro e w3 ⟨rfl, hb3⟩)
      go_roundw
      case rel => exact ⟨(b : Int), k + 1, rfl, by omega, by go_num, HBO.out.trans (hb3.mono hsz), HN⟩
      case measure => simp [intOf]; omega
    · obtain ⟨hz0, hzI⟩ := hu.resolve_left hz
      obtain ⟨x, rfl⟩ : ∃ x : Nat, z = x := ⟨z.toNat, by omega⟩
      have hq2 : ((x : Int) == -1) = false := by first | (simp; done) | (simp; omega)
      obtain ⟨m, hm, hJ2⟩ : ∃ m, MeetR tn (upA A) x b m ∧ JoinR tn (upA A) (inA A) (l.drop (k + 1)) (m : Int) r := by
        cases hJ with
        | skip h _ => exact absurd (by simpa using hI) h
        | more _ _ h1 h2 => exact ⟨_, by simpa using h1, h2⟩
      have hxI : inA A x := by simpa using hzI
      have HN := hide (show (((m : Nat) : Int) = -1 ∨ 0 ≤ ((m : Nat) : Int) ∧ inA A ((m : Nat) : Int).toNat) ∧ JoinR tn (upA A) (inA A) (l.drop (k + 1)) (m : Int) r from ⟨.inr ⟨by omega, by simpa using (hm.spec HTR.out hxI hI).1⟩, hJ2⟩)
      have HM := hide (fun W hW => HMT.out W hW x b m hxI hI hm)
      clear hu hJ hI hq hz hz0 hzI hm hJ2 hxI
      go_wp2_with (first
        | (go_at_call 45; refine (HM.out w3 (HBW.out.trans (HB3.out.mono (by have := HBW.out.size; omega)))).mono ?_; rintro e w4 ⟨rfl, hb4⟩)
        | (go_at_call 44; refine (HC.out).mono ?_; rintro e w3 ⟨rfl, hb3⟩; have HB3 := hide hb3; have HX3 := hide (HXO.out.below hb3); have hs3 := hb3.size; clear hb3 e0 e1; have l3 := HX3.out.lt; have e0 := (HX3.out.cell 0 (v := .slice (some ⟨ga, 0, none⟩) n n) rfl).1; have e1 := (HX3.out.cell 1 (v := .slice (some ⟨gt, 0, none⟩) n n) rfl).1))
      go_roundw
      case rel => exact ⟨(m : Int), k + 1, rfl, by omega, by go_num, HBO.out.trans ((HB3.out.trans (hb4.mono HB3.out.size)).mono hsz), HN⟩
      case measure => simp [intOf]; omega
end Go.Proofs.Ytlolgahaphmfoaa
namespace Go.Proofs.Ytlolgahaphmfoaa
open Go.RowKit

/-- What comes ahead of each node, in memory: a slice of slices, apart from block ga. -/
def PvW (w : World) (gp n ga : Nat) (pv : Nat → List Int) : Prop :=
  gp < w.heap.size ∧ gp ≠ ga ∧ ∀ b, b < n → ∃ A c, w.cell? ⟨gp, b, none⟩ = some (.slice A (pv b).length c) ∧ (pv b).length ≤ c ∧ c ≤ 9223372036854775807 ∧ Sl w w.heap.size .i64 A (pv b) ∧ (∀ be o, A = some ⟨be, o, none⟩ → be ≠ ga)
theorem PvW.but {w w' : World} {gp n ga : Nat} {pv : Nat → List Int} (h : PvW w gp n ga pv) (hb : But ga w w') : PvW w' gp n ga pv := by
  obtain ⟨h1, h2, h3⟩ := h
  refine ⟨Nat.lt_of_lt_of_le h1 hb.size, h2, fun b hbn => ?_⟩
  obtain ⟨A, c, c1, c2, c3, c4, c5⟩ := h3 b hbn
  exact ⟨A, c, (World.cell?_of_block (a := ⟨gp, b, none⟩) (hb.block gp h1 h2)).trans c1, c2, c3, (hb.sl c4 (Nat.le_refl _) c5).more hb.size, c5⟩
theorem But.of_below {w w' : World} {g : Nat} (h : Below w.heap.size w w') : But g w w' := ⟨h.os, h.tape, h.output, h.size, fun k hk _ => h.block k hk⟩
theorem But.trans {w w1 w2 : World} {g : Nat} (h : But g w w1) (h2 : But g w1 w2) : But g w w2 :=
  ⟨h2.os.trans h.os, h2.tape.trans h.tape, h2.output.trans h.output, Nat.le_trans h.size h2.size, fun k hk hg => (h2.block k (Nat.lt_of_lt_of_le hk h.size) hg).trans (h.block k hk hg)⟩
theorem TnW.but {w w' : World} {gt n ga : Nat} {tn : Nat → Nat} (h : TnW w gt n tn) (hb : But ga w w') (hg : gt ≠ ga) : TnW w' gt n tn := hb.box h hg
/-- What a pass has done, k steps on. -/
structure PsI (n : Nat) (tn : Nat → Nat) (R : Nat → Prop) (pv : Nat → List Int) (D : Nat → Nat → Prop) (m : Nat) (A : List Int) (k : Nat) (mv : Bool) (A' : List Int) : Prop where
  gi : GI n tn R pv D (max k 1) A'
  no : mv = false → A' = A ∧ ∀ b, R b → b ≠ 0 → tn b < k → joinA tn A (pv b) (A.getD b (-1))
  yes : mv = true → farA m tn A' < farA m tn A
section
variable {n m : Nat} {tn : Nat → Nat} {R : Nat → Prop} {pv : Nat → List Int} {D : Nat → Nat → Prop} {A A' : List Int} {k b : Nat} {mv : Bool}
theorem PsI.first (g : Gr n m tn R pv D) (h : PsI n tn R pv D m A 0 mv A') : PsI n tn R pv D m A 1 mv A' :=
  ⟨h.gi, fun e => ⟨(h.no e).1, fun b hR h0 hl => absurd (g.inj _ _ hR g.z (by rw [g.tz]; omega)) h0⟩, h.yes⟩
theorem set_same {l : List Int} {i : Nat} {r : Int} (hi : i < l.length) (h : r = l.getD i (-1)) : l.set i r = l := by
  subst h
  apply List.ext_getElem?
  intro j
  by_cases e : i = j
  · subst e; rw [List.getElem?_set_self hi]; simp [List.getD, hi]
  · rw [List.getElem?_set_ne e]
theorem PsI.stay (g : Gr n m tn R pv D) (h : PsI n tn R pv D m A k mv A') (hR : R b) (h0 : b ≠ 0) (hk : tn b = k) (h1 : 1 ≤ k) (hj : joinA tn A' (pv b) (A'.getD b (-1))) : PsI n tn R pv D m A (k + 1) mv A' := by
  have hgi := h.gi
  rw [show max k 1 = k by omega] at hgi
  have hp := hgi.put g hR h0 hk hj
  rw [set_same (by rw [hgi.len]; exact (g.rn b hR).1) rfl] at hp
  refine ⟨by rw [show max (k + 1) 1 = k + 1 by omega]; exact hp, fun e => ?_, h.yes⟩
  obtain ⟨e1, e2⟩ := h.no e
  refine ⟨e1, fun c hc hc0 hl => ?_⟩
  by_cases hck : tn c < k
  · exact e2 c hc hc0 hck
  · have : c = b := g.inj _ _ hc hR (by omega)
    subst this
    rw [← e1]
    exact hj
theorem PsI.move {r : Int} (g : Gr n m tn R pv D) (h : PsI n tn R pv D m A k mv A') (hR : R b) (h0 : b ≠ 0) (hk : tn b = k) (h1 : 1 ≤ k) (hj : joinA tn A' (pv b) r) (hne : r ≠ A'.getD b (-1)) : PsI n tn R pv D m A (k + 1) true (A'.set b r) := by
  have hgi := h.gi
  rw [show max k 1 = k by omega] at hgi
  have hp := hgi.put g hR h0 hk hj
  have hl := hgi.less g hR h0 hk hj hne
  refine ⟨by rw [show max (k + 1) 1 = k + 1 by omega]; exact hp, fun e => by simp at e, fun _ => ?_⟩
  cases mv with
  | true => have := h.yes rfl; omega
  | false => rw [(h.no rfl).1] at hl; rw [(h.no rfl).1]; exact hl
theorem PsI.rest (g : Gr n m tn R pv D) (h : PsI n tn R pv D m A m false A') (h1 : 1 ≤ m) : Rest n tn R pv D A' := by
  obtain ⟨e1, e2⟩ := h.no rfl
  refine ⟨h.gi.again g (by omega), h.gi.all g (by omega), fun b hR h0 => ?_⟩
  have := e2 b hR h0 (g.rn b hR).2
  rw [← e1] at this
  exact this
end
def PsW (w1 : World) (ga n : Nat) (tn : Nat → Nat) (R : Nat → Prop) (pv : Nat → List Int) (D : Nat → Nat → Prop) (m : Nat) (A : List Int) (k : Nat) (mv : Bool) (wr : World) : Prop := ∃ A', PsI n tn R pv D m A k mv A' ∧ AbW wr ga A' ∧ But ga w1 wr
set_option maxHeartbeats 2000000 in
set_option maxRecDepth 100000 in
theorem dpass_any {n m : Nat} {tn : Nat → Nat} {R : Nat → Prop} {pv : Nat → List Int} {D : Nat → Nat → Prop} (g : Gr n m tn R pv D) (A : List Int) (gi : GI n tn R pv D 1 A) (hn1 : 1 ≤ n) (hn40 : n ≤ 40) (hm1 : 1 ≤ m) (hm40 : m ≤ 40)
    (o : List Int) (hom : o.length = m) (ho : ∀ (i : Nat) (y : Int), o[i]? = some y → ∃ b : Nat, y = b ∧ R b ∧ tn b = i) (hpl : ∀ b, (pv b).length ≤ 80)
    (ga gt gp : Nat) (Ao : Option Addr) (co : Nat) (hoc : m ≤ co) (hco : co ≤ 9223372036854775807) (w : World) (hA : AbW w ga A) (hT : TnW w gt n tn) (hgt : gt ≠ ga) (hP : PvW w gp n ga pv) (hO : Sl w w.heap.size .i64 Ao o) (hOa : ∀ be k, Ao = some ⟨be, k, none⟩ → be ≠ ga) :
    Calls Try.prog 59 #[.agg #[.slice (some ⟨ga, 0, none⟩) n n, .slice (some ⟨gt, 0, none⟩) n n], .slice Ao m co, .slice (some ⟨gp, 0, none⟩) n n] w fun e w' => ∃ (mv : Bool) (A' : List Int), e = .returned (.bool mv) ∧ AbW w' ga A' ∧ GI n tn R pv D 1 A' ∧ But ga w w' ∧ (mv = true → farA m tn A' < farA m tn A) ∧ (mv = false → Rest n tn R pv D A') := by
  have HG := hide g
  have HAB := hide hA
  have HTN := hide hT
  have HPV := hide hP
  have HPL := hide hpl
  have HO := hide hO
  have HOA := hide hOa
  have HOR := hide ho
  have HOM := hide hom
  have HPS0 := hide (show PsI n tn R pv D m A 0 false A from ⟨gi, fun _ => ⟨rfl, fun b _ _ h => by omega⟩, fun e => by simp at e⟩)
  have hga := Box.lt hA
  have hgtl := Box.lt hT
  have hgpl := hP.1
  have hgpa := hP.2.1
  clear g gi hom ho hpl hA hT hP hO hOa
  go_enter Try.func59, Try.ntmps59
  go_upto_region 1 with (fail)
  obtain ⟨w1, hw1⟩ : ∃ w1, w1 = w.alloc (.cells #[.slice (some ⟨ga, 0, none⟩) n n, .slice (some ⟨gt, 0, none⟩) n n] 62) := ⟨_, rfl⟩
  obtain ⟨g1, hg1⟩ : ∃ g1, w.heap.size = g1 := ⟨_, rfl⟩
  have HX1 := hide (show Box w1 g1 #[.slice (some ⟨ga, 0, none⟩) n n, .slice (some ⟨gt, 0, none⟩) n n] 62 by rw [hw1, ← hg1]; exact Box.new w _ _)
  have HB1 := hide (show Below w.heap.size w w1 by rw [hw1]; exact alloc1 w _)
  have HW1 := hide (show PsW w1 ga n tn R pv D m A 0 false w1 from ⟨A, HPS0.out, HAB.out.below HB1.out, But.refl _ _⟩)
  rw [← hw1, hg1]
  clear hw1
  have l1 := HX1.out.lt
  have hg1a : g1 ≠ ga := by omega
  clear HPS0
  go_wp2
  go_loopw [7, 13] (fun v i wr => ∃ (mv : Bool) (k : Nat), v = .bool mv ∧ k ≤ m ∧ i = .int .i64 (k : Int) ∧ Hid (PsW w1 ga n tn R pv D m A k mv wr)) (fun _ i _ => m - (intOf i).toNat)
  case atStart => exact ⟨false, 0, rfl, Nat.zero_le _, rfl, HW1⟩
  case round =>
    obtain ⟨mv, k, rfl, hk, rfl, hin⟩ := hrel
    obtain ⟨wo, rfl⟩ : ∃ wo, wo = wr := ⟨_, rfl⟩
    obtain ⟨A', hps, hab, hbt⟩ := hin.out
    have HPS := hide hps
    have HA := hide hab
    have HBT := hide hbt
    have HBW := hide ((But.of_below (g := ga) HB1.out).trans hbt)
    have hsz := HBW.out.size
    clear hin hps hab hbt
    by_cases hlt : k < m
    case neg =>
      have hkm : k = m := by omega
      have HE := hide (show GI n tn R pv D 1 A' from HPS.out.gi.again HG.out (by omega))
      have HY := hide HPS.out.yes
      have HN := hide (fun e : mv = false => by
        have h := HPS.out
        rw [e, hkm] at h
        exact h.rest HG.out hm1)
      go_wp2
      go_ret
      exact ⟨mv, A', rfl, HA.out, HE.out, HBW.out, HY.out, HN.out⟩
    obtain ⟨y, hy⟩ : ∃ y, o[k]? = some y := ⟨_, List.getElem?_eq_getElem (by have := HOM.out; omega)⟩
    obtain ⟨b, rfl, hR, htb⟩ := HOR.out k y hy
    obtain ⟨be, oe, rfl, hbe, hce⟩ := (HBW.out.sl HO.out (Nat.le_refl _) HOA.out) (by have := HOM.out; omega)
    have d1 := hce k (by have := HOM.out; omega)
    rw [show o.getD k 0 = (b : Int) by simp [List.getD, hy]] at d1
    have hbs : be < wo.heap.size := by omega
    clear hce hbe hy
    by_cases hk0 : k = 0
    · have HN := hide (show PsW w1 ga n tn R pv D m A (k + 1) mv wo from ⟨A', by have h := HPS.out; rw [hk0] at h ⊢; exact h.first HG.out, HA.out, HBT.out⟩)
      have q0 : ((k : Int) == 0) = true := by simp [hk0]
      clear hk0 htb
      go_wp2
      go_roundw
      case rel => exact ⟨mv, k + 1, rfl, by omega, by go_num, HN⟩
      case measure => simp [intOf]; omega
    have q0 : ((k : Int) == 0) = false := by first | (simp; done) | (simp; omega)
    have hb0 : b ≠ 0 := fun e => by subst e; have := HG.out.tz; omega
    have HR := hide hR
    have HTB := hide htb
    have HB0 := hide hb0
    have HK0 := hide (show 1 ≤ k by omega)
    have hbn := (HG.out.rn b hR).1
    obtain ⟨Ap, cp, p1, p2, p3, p4, -⟩ := (HPV.out.but HBW.out).2.2 b hbn
    obtain ⟨r, hr⟩ := HPS.out.gi.join HG.out b
    have hgi := HPS.out.gi
    have HJN := hide (fun (W : World) (hW : Below wo.heap.size wo W) => djoin_any A' tn (pv b) r ga gt n Ap cp W (HA.out.below hW) hgi.len hn1 hn40 ((HTN.out.but HBW.out hgt).below hW) hgi.tr hgi.neg (fun c hc => (HG.out.rn c (hgi.re c hc)).1) ((p4.below hW).more hW.size) (HG.out.pp b) (by have := HPL.out b; omega) p2 p3 hr)
    have HRJ := hide hr
    have HLA := hide hgi.len
    obtain ⟨lp, hlp⟩ : ∃ lp, (pv b).length = lp := ⟨_, rfl⟩
    rw [hlp] at HJN p1 p2
    have HXO := hide (show Box wo g1 #[.slice (some ⟨ga, 0, none⟩) n n, .slice (some ⟨gt, 0, none⟩) n n] 62 from HBT.out.box HX1.out hg1a)
    have lo := HXO.out.lt
    have e0 := (HXO.out.cell 0 (v := .slice (some ⟨ga, 0, none⟩) n n) rfl).1
    have e1 := (HXO.out.cell 1 (v := .slice (some ⟨gt, 0, none⟩) n n) rfl).1
    have hgpo : gp < wo.heap.size := by omega
    have hbi : (0 : Int) ≤ (b : Int) := by omega
    have hbj : (b : Int) < (n : Int) := by omega
    have HK := hide (fun (W : World) (hW : Below wo.heap.size wo W) => And.intro ((HXO.out.below hW).cell 0 (v := .slice (some ⟨ga, 0, none⟩) n n) rfl).1 (And.intro ((HXO.out.below hW).cell 1 (v := .slice (some ⟨gt, 0, none⟩) n n) rfl).1 ((hW.cell (p := ⟨gp, b, none⟩) hgpo).trans p1)))
    clear p4 hgi hr hR htb hb0 hlp hk0
    go_upto_region 6 with (fail)
    go_region_held3 (fun w' => w'.cell? ⟨g1, 0, none⟩ = some (.slice (some ⟨ga, 0, none⟩) n n) ∧ w'.cell? ⟨g1, 1, none⟩ = some (.slice (some ⟨gt, 0, none⟩) n n) ∧ w'.cell? ⟨gp, b, none⟩ = some (.slice Ap lp cp)) (first | go_keep | (exact q6))
      (first
        | (go_at_call 74; refine (HJN.out _ (below_drewN (Below.refl _ _) 1)).mono ?_; rintro e w6 ⟨rfl, hb6⟩; have hc6 : Below wo.heap.size wo w6 := ⟨hb6.os, hb6.tape, hb6.output, hb6.size, hb6.block⟩; have q6 := HK.out w6 hc6; have HC6 := hide hc6; clear hb6 hc6))
    all_goals
      have HA6 := hide (HA.out.below HC6.out)
      have HX6 := hide (HXO.out.below HC6.out)
      have hs6 := HC6.out.size
      have l6 := HX6.out.lt
      clear e0 e1 p1 d1
      have e0 := (HX6.out.cell 0 (v := .slice (some ⟨ga, 0, none⟩) n n) rfl).1
      have e1 := (HX6.out.cell 1 (v := .slice (some ⟨gt, 0, none⟩) n n) rfl).1
      obtain ⟨a1, a2⟩ := HA6.out.cell (b := b) (by rw [HLA.out]; exact hbn)
      have hga6 : ga < w6.heap.size := by omega
      have HB6 := hide (HBT.out.trans (But.of_below (g := ga) HC6.out))
      by_cases he : r = A'.getD b (-1)
      · have HN := hide (show PsW w1 ga n tn R pv D m A (k + 1) mv w6 from ⟨A', HPS.out.stay HG.out HR.out HB0.out HTB.out HK0.out (by rw [← he]; exact HRJ.out), HA6.out, HB6.out⟩)
        rw [← he] at a1
        clear he
        go_wp2
        go_roundw
        case rel => exact ⟨mv, k + 1, rfl, by omega, by go_num, HN⟩
        case measure => simp [intOf]; omega
      · have HN := hide (show PsW w1 ga n tn R pv D m A (k + 1) true (w6.setCell ⟨ga, b, none⟩ (.int .i64 r)) from ⟨A'.set b r, HPS.out.move HG.out HR.out HB0.out HTB.out HK0.out HRJ.out he, HA6.out.set b r, HB6.out.set⟩)
        generalize A'.getD b (-1) = rb at *
        have q1 : (r == rb) = false := by simpa using he
        clear he
        go_wp2
        go_roundw
        case rel => exact ⟨true, k + 1, rfl, by omega, by go_num, HN⟩
        case measure => simp [intOf]; omega
end Go.Proofs.Ytlolgahaphmfoaa
