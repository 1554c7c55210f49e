/- The contracts of the reference's Size and SameEdges of layer 5, and of the statements' own question whether a program isn't asked about. Condition: no slice of the program is longer than any machine's memory. -/
import Derived.Test.YtpggjolbohffjaaFL
import Derived.Test.YtpggjolbohffjaaTC
set_option linter.unusedSimpArgs false
set_option linter.unusedVariables false
namespace Go.Proofs.Ytpggjolbohffjaa
open Go.RowKit

set_option maxRecDepth 100000 in
theorem rsize_any (vk vb vs : Value) (f : FunV) (w : World) (B : Nat) (hB : B ≤ w.heap.size) (hi : FunI w (· < B) vk vb vs f) (hok : FlowOk f) :
    Calls Try.prog 19 #[.agg #[vk, vb, .int .i64 f.params, .int .i64 f.result, vs]] w fun e w' => e = .returned (.int .i64 (sizeTo f f.blocks.length : Nat)) ∧ Below w.heap.size w w' := by
  obtain ⟨Ak, ck, rfl, hck, hmk⟩ := hi.1.open'
  obtain ⟨Ab, cb, rfl, hcb, hmb⟩ := hi.2.1.open'
  obtain ⟨As, cs, rfl, hcs, hms⟩ := hi.2.2.1.open'
  have HBK := hide (fun (W : World) (hW : Below w.heap.size w W) => hi.2.2.1.keep (up hW hB) (fun _ h => h))
  have hls40 := hok.1
  have HB40 := hide hok.2.1
  have HSL := hide (fun k hk => sizeTo_le hok k hk)
  have HST := hide (fun k b h => @sizeTo_step f k b h)
  have HS0 := hide (show sizeTo f 0 = 0 from rfl)
  generalize sizeTo f = sz at *
  obtain ⟨ls, hls⟩ : ∃ ls, f.blocks.length = ls := ⟨_, rfl⟩
  have HLS := hide hls
  rw [hls] at HBK hls40 HSL hcs ⊢
  generalize f.kinds.length = lk, f.base.length = lb, f.params = fp, f.result = fr at *
  clear hi hok hls
  go_enter Try.func19, Try.ntmps19
  go_upto_region 1 with (fail)
  obtain ⟨w1, hw1⟩ : ∃ w1, w1 = w.alloc (.cells #[.slice Ak lk ck, .slice Ab lb cb, .int .i64 fp, .int .i64 fr, .slice As ls cs] 30) := ⟨_, rfl⟩
  have HX1 := hide (show Box w1 w.heap.size #[.slice Ak lk ck, .slice Ab lb cb, .int .i64 fp, .int .i64 fr, .slice As ls cs] 30 by rw [hw1]; exact Box.new w _ _)
  have HB1 := hide (show Below w.heap.size w w1 by rw [hw1]; exact alloc1 w _)
  rw [← hw1]
  clear hw1
  have l1 := HX1.out.lt
  have c4 := (HX1.out.cell 4 (v := .slice As ls cs) rfl).1
  go_wp2
  go_loopw [3, 4] (fun l i wr => ∃ (k : Nat), k ≤ ls ∧ l = .int .i64 (sz k : Nat) ∧ i = .int .i64 k ∧ Below w1.heap.size w1 wr) (fun _ i _ => ls - (intOf i).toNat)
  case atStart => exact ⟨0, Nat.zero_le _, by rw [HS0.out]; rfl, rfl, Below.refl _ _⟩
  case round =>
    obtain ⟨k, hk, rfl, rfl, hb⟩ := hrel
    obtain ⟨wo, rfl⟩ : ∃ wo, wo = wr := ⟨_, rfl⟩
    have hsz := hb.size
    have HBW := hide hb
    have HBEL := hide (HB1.out.trans (hb.mono HB1.out.size))
    have HXO := hide (HX1.out.below hb)
    clear hb c4
    have c4 := (HXO.out.cell 4 (v := .slice As ls cs) rfl).1
    have lo := HXO.out.lt
    by_cases hlt : k < ls
    case neg =>
      obtain rfl : k = ls := by omega
      go_wp2
      go_ret
      exact ⟨rfl, HBEL.out⟩
    obtain ⟨x, hx⟩ : ∃ x, f.blocks[k]? = some x := ⟨_, List.getElem?_eq_getElem (by have := HLS.out; omega)⟩
    obtain ⟨b1, o1, A1, c1, hA1, hbb1, g0, -⟩ := (HBK.out wo HBEL.out).get hx
    subst hA1
    have hbs : b1 < wo.heap.size := by have := HBEL.out.size; omega
    have hx40 := HB40.out x (List.mem_of_getElem? hx)
    have hs40 := HSL.out k hk
    have hst := HST.out k x hx
    generalize x.length = m at *
    obtain ⟨s, hs⟩ : ∃ s, sz k = s := ⟨_, rfl⟩
    obtain ⟨s', hs'⟩ : ∃ s, sz (k + 1) = s := ⟨_, rfl⟩
    rw [hs, hs'] at hst
    rw [hs] at hs40 ⊢
    have HNXT := hide (show sz (k + 1) = s + m by rw [hs', hst])
    clear hs hs' hst hx
    go_wp2
    go_roundw
    case rel => exact ⟨k + 1, by omega, by rw [HNXT.out]; go_num, by go_num, HBW.out⟩
    case measure => simp [intOf]; omega

set_option maxRecDepth 100000 in
theorem sameEdges_yes (A1 A2 : Option Addr) (c1 c2 : Nat) (es : List (Int × Int)) (w : World) (h1 : EdgS w w.heap.size A1 es) (h2 : EdgS w w.heap.size A2 es) (hn : es.length ≤ 1000) :
    Calls Try.prog 15 #[.slice A1 es.length c1, .slice A2 es.length c2] w fun e w' => e = .returned (.bool true) ∧ Below w.heap.size w w' := by
  obtain ⟨n, hn'⟩ : ∃ n, es.length = n := ⟨_, rfl⟩
  rw [hn'] at hn ⊢
  have HN := hide hn'
  have H1 := hide h1
  have H2 := hide h2
  clear hn' h1 h2
  go_enter Try.func15, Try.ntmps15
  go_wp2
  go_loopw [5] (fun i wr => ∃ k : Nat, k ≤ n ∧ i = .int .i64 k ∧ Below w.heap.size w wr) (fun i _ => n - (intOf i).toNat)
  case atStart => exact ⟨0, Nat.zero_le _, rfl, Below.refl _ _⟩
  case round =>
    obtain ⟨k, hk, rfl, hb⟩ := hrel
    have hsz := hb.size
    have HB := hide hb
    by_cases hlt : k < n
    · obtain ⟨p, hp⟩ : ∃ p, es[k]? = some p := ⟨_, List.getElem?_eq_getElem (by have := HN.out; omega)⟩
      obtain ⟨b1, o1, rfl, hb1, hc1⟩ := (H1.out.below hb) (by have := HN.out; omega)
      obtain ⟨b2, o2, rfl, hb2, hc2⟩ := (H2.out.below hb) (by have := HN.out; omega)
      obtain ⟨x1, x2⟩ := hc1 k p hp
      obtain ⟨y1, y2⟩ := hc2 k p hp
      have s1 : b1 < wr.heap.size := by omega
      have s2 : b2 < wr.heap.size := by omega
      obtain ⟨pa, pb⟩ := p
      simp only at x1 x2 y1 y2
      have hki : (0 : Int) ≤ (k : Int) := by omega
      have hkn : (k : Int) < (n : Int) := by omega
      clear hc1 hc2 hp hb
      go_wp2_with fail
      go_quiet (fail)
      go_wp2
      go_roundw
      case rel => exact ⟨k + 1, by omega, by go_num, below_drewN HB.out _⟩
      case measure => simp [intOf]; omega
    · clear hb
      go_wp2
      go_ret
      exact ⟨rfl, HB.out⟩
set_option maxHeartbeats 1000000 in
set_option maxRecDepth 100000 in
theorem out5_any (vp : Value) (p : List FunV) (w : World) (B : Nat) (hB : B ≤ w.heap.size) (hp : FunsV w (· < B) vp p) (hsz : progSize p) :
    Calls Try.prog 9 #[.agg #[vp]] w fun e w' => ∃ b : Bool, e = .returned (.bool b) ∧ Hid (b = false → progB4 p = true) ∧ Below w.heap.size w w' := by
  have HG := hide (fun (W : World) (hW : Below w.heap.size w W) => great2_any vp p W B (by have := hW.size; omega) (hp.keep (up hW hB) (fun _ h => h)) hsz)
  have HCK := hide (fun (W : World) (hW : Below w.heap.size w W) (hf : progFew p) => check4_any vp p W B (by have := hW.size; omega) (hp.keep (up hW hB) (fun _ h => h)) hf)
  have HFEW := hide (fun h : ∀ f ∈ p, smallF f => smallF.few h)
  obtain ⟨A, c, rfl, hpc, hpm⟩ := hp.open'
  have HTWO := hide (two_chk p)
  generalize chkN4 p = ck at *
  obtain ⟨lp, hlp⟩ : ∃ lp, p.length = lp := ⟨_, rfl⟩
  rw [hlp] at HG HCK hpc ⊢
  clear hp hsz hlp
  go_enter Try.func9, Try.ntmps9
  go_upto_region 1 with (fail)
  obtain ⟨w0, hw0⟩ : ∃ w0, w0 = w.alloc (.cells #[.slice A lp c] 24) := ⟨_, rfl⟩
  have HX0 := hide (show Box w0 w.heap.size #[.slice A lp c] 24 by rw [hw0]; exact Box.new w _ _)
  have HB0 := hide (show Below w.heap.size w w0 by rw [hw0]; exact alloc1 w _)
  have hl0 := HX0.out.lt
  rw [← hw0]
  clear hw0
  have x0 := (HX0.out.cell 0 (v := .slice A lp c) rfl).1
  rcases HTWO.out with ⟨rfl, hpb⟩ | rfl
  · have HPB := hide hpb
    clear hpb
    go_wp2_with (first
      | (go_at_call 26; refine (HCK.out w2 HB2.out (HFEW.out (HS2.out (by first | assumption | exact Bool.eq_false_iff.2 (by assumption))))).mono ?_; rintro e w3 ⟨rfl, hb3⟩; have HB3 := hide (HB2.out.trans (hb3.mono HB2.out.size)); clear hb3)
      | (go_at_call 25; refine (HG.out w0 HB0.out).mono ?_; rintro e w2 ⟨b1, rfl, hs2, hb2⟩; have x2 := ((HX0.out.below hb2).cell 0 (v := .slice A lp c) rfl).1; have l2 := (HX0.out.below hb2).lt; have HB2 := hide (HB0.out.trans (hb2.mono HB0.out.size)); have HS2 := hide hs2; clear hb2 hs2))
    all_goals
      go_ret
      first
        | exact ⟨_, rfl, hide (fun _ => HPB.out), HB3.out⟩
        | exact ⟨_, rfl, hide (fun _ => HPB.out), HB2.out⟩
  · go_wp2_with (first
      | (go_at_call 26; refine (HCK.out w2 HB2.out (HFEW.out (HS2.out (by first | assumption | exact Bool.eq_false_iff.2 (by assumption))))).mono ?_; rintro e w3 ⟨rfl, hb3⟩; have HB3 := hide (HB2.out.trans (hb3.mono HB2.out.size)); clear hb3)
      | (go_at_call 25; refine (HG.out w0 HB0.out).mono ?_; rintro e w2 ⟨b1, rfl, hs2, hb2⟩; have x2 := ((HX0.out.below hb2).cell 0 (v := .slice A lp c) rfl).1; have l2 := (HX0.out.below hb2).lt; have HB2 := hide (HB0.out.trans (hb2.mono HB0.out.size)); have HS2 := hide hs2; clear hb2 hs2))
    all_goals
      go_ret
      first
        | exact ⟨true, rfl, hide (fun h => by cases h), HB3.out⟩
        | exact ⟨true, rfl, hide (fun h => by cases h), HB2.out⟩
end Go.Proofs.Ytpggjolbohffjaa
