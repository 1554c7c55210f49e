/- The statement ParOrders, walked: it answers true. No condition. -/
import Derived.Test.YtkilfejcohnceaaPaIS
import Derived.Test.YtkilfejcohnceaaPaIL
import Derived.Test.YtkilfejcohnceaaPaDB
set_option linter.unusedSimpArgs false
set_option linter.unusedVariables false
namespace Go.Proofs.Ytkilfejcohnceaa
open Go.RowKit

def outL (l : List MvV) (sp : LcV) : List MvV := if okO l sp = true then orderL l sp else []
def outE (l : List MvV) (sp : LcV) : Int := if okO l sp = true then 0 else 1
/-- What Order answers, in one form. -/
def OutP (w : World) (l : List MvV) (sp : LcV) (e : Ending) (w' : World) : Prop :=
  ∃ A c, e = .returned (.tuple #[.slice A (outL l sp).length c, .int .i64 (outE l sp)]) ∧ (outL l sp).length ≤ c ∧ c ≤ 9223372036854775807 ∧ OwC mvC 38 4 w' w.heap.size (.slice A (outL l sp).length c) (outL l sp) ∧ MvsV w' (· < w'.heap.size) (.slice A (outL l sp).length c) (outL l sp) ∧ Below w.heap.size w w'
theorem OrdA.out {w w' : World} {l : List MvV} {sp : LcV} {e : Ending} (h : OrdA w l sp e w') : OutP w l sp e w' := by
  obtain ⟨h1, h2, h3⟩ := h
  unfold OutP outL outE
  cases ho : okO l sp with
  | true =>
    obtain ⟨v, he, hw, hr⟩ := h1 ho
    obtain ⟨A, c, rfl, hc, hm⟩ := hw.sl
    simp only [if_true]
    exact ⟨A, c, he, hc, by simpa [maxLen] using hm, hw, mvs_own hw hr, h3⟩
  | false =>
    simp only [Bool.false_eq_true, if_false]
    refine ⟨none, 0, h2 ho, Nat.le_refl _, by omega, OwC.nil _ _, mvs_own (OwC.nil w' w.heap.size) (fun m hm => by cases hm), h3⟩
set_option maxHeartbeats 4000000 in
set_option maxRecDepth 100000 in
theorem orders17_law (v : Value) (l : List MvV) (sp : LcV) (w : World) (hl : MvsV w (· < w.heap.size) v l) (hsp : lcR sp) :
    Calls Try.prog 3 #[v, lcA sp] w fun e w' => e = .returned (.bool true) ∧ Below w.heap.size w w' := by
  have HAL := hide (fun (W : World) => alive17_any W)
  have HSP := hide hsp
  obtain ⟨A, c, rfl, hc, hcm⟩ := hl.open'
  obtain ⟨n, hn⟩ := letl l.length
  rw [hn] at hl hc ⊢
  by_cases hlim : n ≤ 60
  rotate_left
  · obtain ⟨sk, sn⟩ := sp
    unfold lcA
    clear hl hn
    have hgt : 60 < n := by omega
    go_enter Try.func3, Try.ntmps3
    go_wp2_with (go_at_call 8; refine (HAL.out _).mono ?_; rintro e w1 ⟨rfl, hb1⟩)
    go_ret
    exact ⟨rfl, (alloc1 w _).trans (hb1.mono (by simp))⟩
  have HLV := hide (fun (W : World) (hW : Below w.heap.size w W) => hl.up hW)
  have HN := hide hn
  have HMR := hide hl.range
  have HCE := hide (fun (W : World) (hW : Below w.heap.size w W) (h0 : 0 < n) => (show ∃ b o, A = some ⟨b, o, none⟩ ∧ ∀ (j : Nat) (u : Value), (l.flatMap mvC)[j]? = some u → W.cell? ⟨b, o + j, none⟩ = some u from by
    obtain ⟨b, o, e, hb, hc⟩ := hl.cells (by omega)
    exact ⟨b, o, e, fun j u hu => (hW.cell (p := ⟨b, o + j, none⟩) hb).trans (hc j u hu)⟩))
  obtain ⟨i0, hi0, iz0, iz1, iz2⟩ := info_parts info_mv
  have HI := hide hi0
  obtain ⟨sk, sn⟩ := sp
  unfold lcA
  clear hl hn hi0 hsp
  go_enter Try.func3, Try.ntmps3
  go_upto_region 1 with (fail)
  obtain ⟨w0, hw0⟩ := letr (w.alloc (.cells #[.int .i64 sk, .int .i64 sn] 24))
  obtain ⟨hs, hhs⟩ := letl w.heap.size
  have HXS := lBox hw0 hhs
  have HB0 := lBel hw0
  rw [← hw0, hhs]
  clear hw0 hhs
  go_upto_region 5 with (go_at_call 8; refine (HAL.out w0).mono ?_; rintro e w1 ⟨rfl, hb1⟩; have HX1 := hide (HXS.out.below hb1); have HB1 := hide (HB0.out.trans (hb1.mono HB0.out.size)); clear hb1 HXS)
  have HO := hide (OwC.lit0 (c := mvC) (T := 38) (sz := 4) w1)
  have HBA := hide (HB1.out.trans ((alloc1 w1 (.cells #[] 38)).mono HB1.out.size))
  go_upto_region 6 with (at_builtin; refine wpList_append_cs (c := mvC) (sz := 4) (fun _ => rfl) _ rfl (.tmp 15) (.tmp 16) rfl w1.heap.size i0 _ 32 Try.underlying22 HI.out iz0 iz1 iz2 rfl (by omega) (by omega) (.slice (some ⟨w1.heap.size, 0, none⟩) 0 0) [] (by rfl) HO.out A n c l (by rfl) HN.out (mvC_one l) (HCE.out _ HBA.out) (by simp; omega) (by simp) ?_; intro v5 w5 ho5 hb5; have HO5 := hide (show OwC mvC 38 4 w5 w1.heap.size v5 l from ho5); have HB15 := hide (show Below w1.heap.size w1 w5 from (alloc1 w1 (.cells #[] 38)).trans hb5); clear ho5 hb5)
  have HB5 := hide (HB1.out.trans (HB15.out.mono HB1.out.size))
  have HX5 := hide (HX1.out.below HB15.out)
  have HV5 := hide (mvs_own HO5.out HMR.out)
  obtain ⟨A5, c5, hv5, hc5, hm5⟩ := HO5.out.sl
  rw [HN.out] at hv5 hc5
  subst hv5
  simp only [maxLen] at hm5
  have HOR := hide ((iorder_any _ l ⟨sk, sn⟩ w5 HV5.out (by have := HN.out; omega) HSP.out).mono (R' := OutP w5 l ⟨sk, sn⟩) (fun e w' h => h.out))
  have HRO := hide (fun (W : World) (hW : Below w5.heap.size w5 W) => (irorder_any (.slice A n c) l ⟨sk, sn⟩ W (HLV.out W (HB5.out.trans (hW.mono HB5.out.size))) (by have := HN.out; omega) HSP.out).mono (R' := OutP W l ⟨sk, sn⟩) (fun e w' h => h.out))
  have HRP := hide (fun (W : World) (hW : Below w5.heap.size w5 W) => iright_any (.slice A5 n c5) l W (HV5.out.up hW) (by have := HN.out; omega))
  have HRR := hide (fun (W : World) (hW : Below w5.heap.size w5 W) => irright_any (.slice A n c) l W (HLV.out W (HB5.out.trans (hW.mono HB5.out.size))) (by have := HN.out; omega))
  have HSS := hide (fun (W : World) (hW : Below w5.heap.size w5 W) => (show Calls Try.prog 11 #[.slice A5 n c5, .slice A n c] W fun e w' => e = .returned (.bool true) ∧ Below W.heap.size W w' from by
    have t := irsame_any (.slice A5 n c5) (.slice A n c) l l W (HV5.out.up hW) (HLV.out W (HB5.out.trans (hW.mono HB5.out.size))) (by have := HN.out; omega) (by have := HN.out; omega)
    rwa [decide_eq_true rfl] at t))
  unfold lcA at HOR HRO
  unfold OutP at HOR HRO
  obtain ⟨ol, hol⟩ := letl (outL l ⟨sk, sn⟩)
  obtain ⟨oe, hoe⟩ := letl (outE l ⟨sk, sn⟩)
  obtain ⟨rb, hrb⟩ := letl (right17 l)
  rw [hol, hoe] at HOR HRO
  rw [hrb] at HRP HRR
  have x0 := (HX5.out.cell 0 (v := .int .i64 sk) rfl).1
  have x1 := (HX5.out.cell 1 (v := .int .i64 sn) rfl).1
  have lx := HX5.out.lt
  clear hol hoe hrb HX1 HO5
  go_upto_region 7 with (go_at_call 9; (with_reducible refine HOR.out.mono ?_); rintro e w6 ⟨A6, c6, rfl, hc6, hm6, ho6, hv6, hb6⟩; have HV6 := hide hv6; have c6' := hide hb6; have x0 := (hb6.cell (p := ⟨hs, 0, none⟩) lx).trans x0; have x1 := (hb6.cell (p := ⟨hs, 1, none⟩) lx).trans x1; have lx : hs < w6.heap.size := Nat.lt_of_lt_of_le lx hb6.size; clear ho6 hv6 hb6)
  go_upto_region 8 with (go_at_call 10; (with_reducible refine (HRO.out w6 c6'.out).mono ?_); rintro e w7 ⟨A7, c7, rfl, hc7, hm7, ho7, hv7, hb7⟩; have HV7 := hide hv7; have HV67 := hide (HV6.out.up hb7); have c7' := hide (c6'.out.trans (hb7.mono c6'.out.size)); clear ho7 hv7 hb7)
  have HS1 := hide (show Calls Try.prog 11 #[.slice A6 ol.length c6, .slice A7 ol.length c7] w7 fun e w' => e = .returned (.bool true) ∧ Below w7.heap.size w7 w' from by
    have t := irsame_any (.slice A6 ol.length c6) (.slice A7 ol.length c7) ol ol w7 HV67.out HV7.out (by omega) (by omega)
    rwa [decide_eq_true rfl] at t)
  clear x0 x1 lx
  go_wp2_with (first
    | (go_at_call 11; (with_reducible refine (HSS.out w10 d10.out).mono ?_); rintro e w11 ⟨rfl, hb11⟩; have d11 := hide (d10.out.trans (hb11.mono d10.out.size)); clear hb11)
    | (go_at_call 13; (with_reducible refine (HRR.out w9 d9.out).mono ?_); rintro e w10 ⟨rfl, hb10⟩; have d10 := hide (d9.out.trans (hb10.mono d9.out.size)); clear hb10)
    | (go_at_call 12; (with_reducible refine (HRP.out w8 d8.out).mono ?_); rintro e w9 ⟨rfl, hb9⟩; have d9 := hide (d8.out.trans (hb9.mono d8.out.size)); clear hb9)
    | (go_at_call 11; (with_reducible refine HS1.out.mono ?_); rintro e w8 ⟨rfl, hb8⟩; have d8 := hide (c7'.out.trans (hb8.mono c7'.out.size)); clear hb8))
  go_ret
  exact ⟨by simp, HB5.out.trans (d11.out.mono HB5.out.size)⟩
end Go.Proofs.Ytkilfejcohnceaa
