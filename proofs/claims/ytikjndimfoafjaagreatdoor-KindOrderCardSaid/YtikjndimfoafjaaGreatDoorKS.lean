/- The statement KindOrder, walked: it answers true. Conditions: the tables of parts and of rows read as listed; no slice of the program is longer than any machine's memory. -/
import Derived.Test.YtikjndimfoafjaaGreatDoorKR
import Derived.Deep.RegionHeld3
set_option linter.unusedSimpArgs false
set_option linter.unusedVariables false
namespace Go.Proofs.YtikjndimfoafjaaGreatDoor
open Go.RowKit

set_option maxHeartbeats 8000000 in
set_option maxRecDepth 100000 in
theorem kindorder_law (vp : Value) (p : List FunV) (w : World) (hT : TabP w) (hR : RowP w) (hp : FunsV w (· < w.heap.size) vp p) (hsz : progSize p) :
    Calls Tryz.prog 8 #[.agg #[vp]] w fun e w' => e = .returned (.bool true) ∧ Below w.heap.size w w' := by
  have HAL := hide (fun (W : World) (hW : Below w.heap.size w W) => alive8_any W (hT.below hW hT.1) (hR.below hW hR.1))
  have HGR := hide (fun (W : World) (hW : Below w.heap.size w W) => great8_any vp p W w.heap.size hW.size (hp.keep (up hW (Nat.le_refl _)) (fun _ h => h)) hsz)
  have HCK := hide (fun (W : World) (hW : Below w.heap.size w W) (hf : progFew p) => kcheck_any p vp W w.heap.size hW.size (hp.keep (up hW (Nat.le_refl _)) (fun _ h => h)) (hT.below hW hT.1) (hR.below hW hR.1) hf)
  have HC4 := hide (fun (W : World) (hW : Below w.heap.size w W) (hf : progFew p) => check4_any vp p W w.heap.size hW.size (hp.keep (up hW (Nat.le_refl _)) (fun _ h => h)) hf)
  have HFEW := hide (fun h : ∀ f ∈ p, smallF f => smallF.few h)
  have HFI := hide (fun (h4 : progB4 p = true) (n : Nat) (f : FunV) (hf : p[n]? = some f) (l : List InsV) (hl : l ∈ f.blocks) (x : InsV) (hx : x ∈ l) (va : Value) (W : World) (hW : Below w.heap.size w W) (hxi : InsI W (· < w.heap.size) va x) => kFits_any vp p f n x va W w.heap.size hW.size (hp.keep (up hW (Nat.le_refl _)) (fun _ h => h)) hf hxi (hR.below hW hR.1) (fitOk_of h4 f (List.mem_of_getElem? hf) l hl x hx).1 (fitOk_of h4 f (List.mem_of_getElem? hf) l hl x hx).2)
  have HPK := hide (fun (W : World) (hW : Below w.heap.size w W) => hp.keep (up hW (Nat.le_refl _)) (fun _ h => h))
  obtain ⟨Ap, cp, rfl, hcp, hmp⟩ := hp.open'
  obtain ⟨lp, hlp⟩ : ∃ lp, p.length = lp := ⟨_, rfl⟩
  have HLP := hide hlp
  rw [hlp] at HPK HGR HCK HC4 HFI hcp
  rw [hlp]
  clear hp hT hR hsz hlp
  go_enter Tryz.func8, Tryz.ntmps8
  go_upto_region 1 with (fail)
  obtain ⟨w1, hw1⟩ : ∃ w1, w1 = w.alloc (.cells #[.slice Ap lp cp] 24) := ⟨_, rfl⟩
  obtain ⟨h5, hh5⟩ : ∃ h5, w.heap.size = h5 := ⟨_, rfl⟩
  have HX0 := hide (show Box w1 (h5) #[.slice Ap lp cp] 24 by rw [hw1, ← hh5]; have t := Box.new w #[.slice Ap lp cp] 24; (try simp only [World.size_alloc] at t); exact t)
  have HB1 := hide (show Below w.heap.size w w1 by rw [hw1]; exact ((Below.refl _ _).alloc (Nat.le_refl _) _))
  have w1s := HB1.out.size
  have w1z := hide (show w1.heap.size = h5 + 1 by rw [hw1, ← hh5]; simp only [World.size_alloc])
  have HK0 := hide (fun (W : World) (hW : Below w1.heap.size w1 W) => ((HX0.out.below hW).cell 0 (v := .slice Ap lp cp) rfl).1)
  have lHX0 := HX0.out.lt
  have h5g : w.heap.size ≤ h5 := by omega
  rw [← hw1, hh5]
  clear hw1 hh5
  have p0 := HK0.out w1 (Below.refl _ _)
  go_upto_region 3 with (go_at_call 9; (with_reducible refine (HAL.out w1 HB1.out).mono ?_); rintro e w2 ⟨rfl, hb2⟩; have HQ2 := hide hb2; have HB2 := hide (HB1.out.trans (hb2.mono HB1.out.size)); have p2 := HK0.out w2 hb2; clear hb2)
  go_upto_region 5 with (go_at_call 10; (with_reducible refine (HGR.out w2 HB2.out).mono ?_); rintro e w3 ⟨bG, rfl, hs3, hb3⟩; have HS3 := hide hs3; have HQ3 := hide (HQ2.out.trans (hb3.mono HQ2.out.size)); have HB3 := hide (HB2.out.trans (hb3.mono HB2.out.size)); have p3 := HK0.out w3 HQ3.out; clear hb3 hs3)
  all_goals try (go_ret; exact ⟨rfl, HB3.out⟩)
  have hbG : bG = false := by assumption
  subst hbG
  have HFW := hide (HFEW.out (HS3.out rfl))
  have HCK := hide (fun W hW => HCK.out W hW HFW.out)
  have HC4 := hide (fun W hW => HC4.out W hW HFW.out)
  obtain ⟨b4, hb4⟩ : ∃ b4, progB4 p = b4 := ⟨_, rfl⟩
  have HP4 := hide hb4
  cases b4
  · have hc : chkN4 p = 5 := by unfold chkN4; rw [hb4]; rfl
    rw [hc] at HC4
    clear hb4 hc
    go_wp2_with (first
      | (go_at_call 13; (with_reducible refine (HC4.out w4 HB4.out).mono ?_); rintro e w5 ⟨rfl, hb5⟩; have HB5 := hide (HB4.out.trans (hb5.mono HB4.out.size)); clear hb5)
      | (go_at_call 11; (with_reducible refine (HCK.out w3 HB3.out).mono ?_); rintro e w4 ⟨n, rfl, hn, hb4⟩; obtain rfl : n = 5 := (by rcases hn with ⟨-, h⟩ | ⟨h, -⟩ | ⟨h, -⟩ | ⟨h, -⟩ | ⟨h, -⟩; exact h; all_goals (rw [HP4.out] at h; cases h)); have HQ4 := hide (HQ3.out.trans (hb4.mono HQ3.out.size)); have HB4 := hide (HB3.out.trans (hb4.mono HB3.out.size)); have p4 := HK0.out w4 HQ4.out; clear hb4 hn))
    go_ret
    exact ⟨rfl, HB5.out⟩
  have hc : chkN4 p = 0 := by unfold chkN4; rw [hb4]; rfl
  rw [hc] at HC4
  have HFI := hide (HFI.out hb4)
  clear hb4 hc
  go_wp2_with (first
      | (go_at_call 13; (with_reducible refine (HC4.out w4 HB4.out).mono ?_); rintro e w5 ⟨rfl, hb5⟩; have HQ5 := hide (HQ4.out.trans (hb5.mono HQ4.out.size)); have HB5 := hide (HB4.out.trans (hb5.mono HB4.out.size)); clear hb5)
      | (go_at_call 11; (with_reducible refine (HCK.out w3 HB3.out).mono ?_); rintro e w4 ⟨n, rfl, hn, hb4⟩; have HN := hide hn; have HQ4 := hide (HQ3.out.trans (hb4.mono HQ3.out.size)); have HB4 := hide (HB3.out.trans (hb4.mono HB3.out.size)); have p4 := HK0.out w4 HQ4.out; clear hb4 hn))
  go_loopw [4, 5] (fun a i wr => ∃ k : Nat, k ≤ lp ∧ a = .bool ((p.take k).all (allFit p)) ∧ i = .int .i64 (k : Int) ∧ Below w5.heap.size w5 wr) (fun _ i _ => lp - (intOf i).toNat)
  case atStart => exact ⟨0, Nat.zero_le _, rfl, rfl, Below.refl _ _⟩
  case round =>
    obtain ⟨k, hk, rfl, rfl, hb⟩ := hrel
    obtain ⟨wo, rfl⟩ : ∃ wo, wo = wr := ⟨_, rfl⟩
    have hszo := hb.size
    have HBW := hide hb
    have HBEL := hide (HB5.out.trans (hb.mono HB5.out.size))
    have HXO := hide (HX0.out.below (HQ5.out.trans (hb.mono HQ5.out.size)))
    have xp := (HXO.out.cell 0 (v := .slice Ap lp cp) rfl).1
    clear hb
    obtain ⟨A, hA⟩ : ∃ A, (p.take k).all (allFit p) = A := ⟨_, rfl⟩
    rw [hA]
    have HA := hide hA
    clear hA
    by_cases hlt : k < lp
    case neg =>
      obtain rfl : k = lp := by omega
      have hall : misB p = !A := by have h := HA.out; rw [← HLP.out, List.take_length] at h; unfold misB; rw [h]
      rcases HN.out with ⟨h, -⟩ | ⟨-, h, rfl⟩ | ⟨-, h, -, rfl⟩ | ⟨-, h, -, -, rfl⟩ | ⟨-, h, -, -, rfl⟩
      · rw [HP4.out] at h; cases h
      all_goals
        rw [h] at hall
        cases A <;> simp at hall
        go_wp2
        go_ret
        exact ⟨rfl, HBEL.out⟩
    obtain ⟨f, hf⟩ : ∃ f, p[k]? = some f := ⟨_, List.getElem?_eq_getElem (by have := HLP.out; omega)⟩
    obtain ⟨bg, og, Ak, ck, Ab, cb, As, cs, hAp, hbgb, ⟨-, -, -, -, e4⟩, hi⟩ := (HPK.out wo HBEL.out).get hf
    subst hAp
    have HF := hide hf
    have HFI1 := hide (HFI.out k f hf)
    have hbs : bg < wo.heap.size := by have := HBEL.out.size; omega
    have HIK := hide (fun (W : World) (hW : Below wo.heap.size wo W) => (hi.keep (w := wo) (S := (· < w.heap.size)) (up hW HBEL.out.size) (fun _ h => h)).2.2.1)
    have hm3 : f.blocks.length ≤ 9223372036854775807 := by obtain ⟨A, c, -, h1, h2⟩ := hi.2.2.1.open'; omega
    obtain ⟨ls, hls⟩ : ∃ ls, f.blocks.length = ls := ⟨_, rfl⟩
    have HLS := hide hls
    rw [hls] at HIK e4 hm3
    clear hi hls hf
    have hki : (0 : Int) ≤ (k : Int) := by omega
    have hkl : (k : Int) < (lp : Int) := by omega
    go_wp2
    go_loopw [4, 6] (fun a i wr => ∃ k2 : Nat, k2 ≤ ls ∧ a = .bool (A && (f.blocks.take k2).all (·.all (fitB p f))) ∧ i = .int .i64 (k2 : Int) ∧ Below wo.heap.size wo wr) (fun _ i _ => ls - (intOf i).toNat)
    case atStart => exact ⟨0, Nat.zero_le _, by simp, rfl, Below.refl _ _⟩
    case round =>
      obtain ⟨k2, hk2, rfl, rfl, hb⟩ := hrel
      obtain ⟨wo2, rfl⟩ : ∃ wo2, wo2 = wr := ⟨_, rfl⟩
      have hszo2 := hb.size
      have HBW2 := hide hb
      have xp2 := ((HXO.out.below hb).cell 0 (v := .slice (some ⟨bg, og, none⟩) lp cp) rfl).1
      have e42 := (hb.cell (p := ⟨bg, og + k * 5 + 4, none⟩) hbs).trans e4
      clear hb
      obtain ⟨A2, hA2⟩ : ∃ A2, (A && (f.blocks.take k2).all (·.all (fitB p f))) = A2 := ⟨_, rfl⟩
      rw [hA2]
      have HA2 := hide hA2
      clear hA2
      by_cases hlt2 : k2 < ls
      case neg =>
        obtain rfl : k2 = ls := by omega
        go_wp2
        go_roundw
        case rel => exact ⟨k + 1, by omega, by rw [List.take_add_one, HF.out, List.all_append, HA.out, ← HA2.out, ← HLS.out, List.take_length]; simp [allFit], by go_num, HBW.out.trans (HBW2.out.mono hszo)⟩
        case measure => simp [intOf]; omega
      obtain ⟨l, hl⟩ : ∃ l, f.blocks[k2]? = some l := ⟨_, List.getElem?_eq_getElem (by have := HLS.out; omega)⟩
      obtain ⟨bb, ob, Al, cl, hAs, hbb, d0, hli⟩ := (HIK.out wo2 HBW2.out).get hl
      subst hAs
      have HL := hide hl
      have HFI2 := hide (HFI1.out l (List.mem_of_getElem? hl))
      have hbs2 : bb < wo2.heap.size := by have := HBEL.out.size; omega
      have HLI := hide (fun (W : World) (hW : Below wo2.heap.size wo2 W) => hli.keep (S := (· < w.heap.size)) (up hW (by have := HBEL.out.size; omega)) (fun _ h => h))
      have hm4 : l.length ≤ 9223372036854775807 := by obtain ⟨A, c, -, h1, h2⟩ := hli.open'; omega
      obtain ⟨ll, hll⟩ : ∃ ll, l.length = ll := ⟨_, rfl⟩
      have HLL := hide hll
      rw [hll] at HLI d0 hm4
      clear hli hll hl
      have hki2 : (0 : Int) ≤ (k2 : Int) := by omega
      have hkl2 : (k2 : Int) < (ls : Int) := by omega
      have hbsA : bg < wo2.heap.size := by omega
      have HQ := hide (fun (W : World) (hW : Below wo2.heap.size wo2 W) => And.intro (((HXO.out.below HBW2.out).below hW).cell 0 (v := .slice (some ⟨bg, og, none⟩) lp cp) rfl).1 (And.intro ((hW.cell (p := ⟨bg, og + k * 5 + 4, none⟩) hbsA).trans e42) ((hW.cell (p := ⟨bb, ob + k2, none⟩) hbs2).trans d0)))
      go_wp2
      go_loopw [4, 7] (fun a i wr => ∃ k3 : Nat, k3 ≤ ll ∧ a = .bool (A2 && (l.take k3).all (fitB p f)) ∧ i = .int .i64 (k3 : Int) ∧ Below wo2.heap.size wo2 wr) (fun _ i _ => ll - (intOf i).toNat)
      case atStart => exact ⟨0, Nat.zero_le _, by simp, rfl, Below.refl _ _⟩
      case round =>
        obtain ⟨k3, hk3, rfl, rfl, hb⟩ := hrel
        obtain ⟨wo3, rfl⟩ : ∃ wo3, wo3 = wr := ⟨_, rfl⟩
        have hszo3 := hb.size
        have HBW3 := hide hb
        obtain ⟨xp3, e43, d03⟩ := HQ.out wo3 hb
        clear hb
        obtain ⟨A3, hA3⟩ : ∃ A3, (A2 && (l.take k3).all (fitB p f)) = A3 := ⟨_, rfl⟩
        rw [hA3]
        have HA3 := hide hA3
        clear hA3
        by_cases hlt3 : k3 < ll
        case neg =>
          obtain rfl : k3 = ll := by omega
          go_wp2
          go_roundw
          case rel => exact ⟨k2 + 1, by omega, by rw [List.take_add_one, HL.out, List.all_append, ← HA3.out, ← HA2.out, ← HLL.out, List.take_length]; simp [Bool.and_assoc], by go_num, HBW2.out.trans (HBW3.out.mono hszo2)⟩
          case measure => simp [intOf]; omega
        obtain ⟨x, hx⟩ : ∃ x, l[k3]? = some x := ⟨_, List.getElem?_eq_getElem (by have := HLL.out; omega)⟩
        obtain ⟨bx, ox, Ay, cy, hAl, hbx, ⟨z0, z1, z2, z3, z4, z5, z6⟩, hxi⟩ := (HLI.out wo3 HBW3.out).get hx
        subst hAl
        have HXX := hide hx
        have HBA := hide (HBEL.out.trans ((HBW2.out.trans (HBW3.out.mono HBW2.out.size)).mono HBEL.out.size))
        have HFI3 := hide (fun W hW => HFI2.out x (List.mem_of_getElem? hx) (.slice Ay x.args.length cy) W (HBA.out.trans (Below.mono hW HBA.out.size)) (hxi.keep (up hW (by have := HBA.out.size; omega)) (fun _ h => h)))
        have hbs3 : bx < wo3.heap.size := by have := HBA.out.size; omega
        clear hxi hx
        obtain ⟨b9, hb9⟩ : ∃ b9, fitB p f x = b9 := ⟨_, rfl⟩
        have HE : Hid ((A2 && (l.take (k3 + 1)).all (fitB p f)) = (A3 && b9)) := hide (by rw [List.take_add_one, HXX.out, List.all_append, ← HA3.out, ← hb9]; simp [Bool.and_assoc])
        rw [hb9] at HFI3
        clear hb9
        have hki3 : (0 : Int) ≤ (k3 : Int) := by omega
        have hkl3 : (k3 : Int) < (ll : Int) := by omega
        generalize x.args.length = ly, x.op = yo, x.d = yd, x.a = ya, x.b = yb, x.n = yn, x.m = ym at *
        have hb3a : h5 < wo3.heap.size := by have := HX0.out.lt; have := HQ5.out.size; omega
        have hb3b : bg < wo3.heap.size := by omega
        have hb3c : bb < wo3.heap.size := by omega
        have HQ3 := hide (fun (W : World) (hW : Below wo3.heap.size wo3 W) => And.intro ((hW.cell (p := ⟨h5, 0, none⟩) hb3a).trans xp3) (And.intro ((hW.cell (p := ⟨bg, og + k * 5 + 4, none⟩) hb3b).trans e43) (And.intro ((hW.cell (p := ⟨bb, ob + k2, none⟩) hb3c).trans d03) (And.intro ((hW.cell (p := ⟨bx, ox + k3 * 7, none⟩) hbs3).trans z0) (And.intro ((hW.cell (p := ⟨bx, ox + k3 * 7 + 1, none⟩) hbs3).trans z1) (And.intro ((hW.cell (p := ⟨bx, ox + k3 * 7 + 2, none⟩) hbs3).trans z2) (And.intro ((hW.cell (p := ⟨bx, ox + k3 * 7 + 3, none⟩) hbs3).trans z3) (And.intro ((hW.cell (p := ⟨bx, ox + k3 * 7 + 4, none⟩) hbs3).trans z4) (And.intro ((hW.cell (p := ⟨bx, ox + k3 * 7 + 5, none⟩) hbs3).trans z5) ((hW.cell (p := ⟨bx, ox + k3 * 7 + 6, none⟩) hbs3).trans z6))))))))))
        cases A3
        · go_wp2
          go_region
          go_wp2
          go_roundw
          case rel => exact ⟨k3 + 1, by omega, by rw [HE.out]; rfl, by go_num, ⟨HBW3.out.os, HBW3.out.tape, HBW3.out.output, HBW3.out.size, HBW3.out.block⟩⟩
          case measure => simp [intOf]; omega
        · go_wp2_with fail
          go_region_held3 (fun w' => w'.cell? ⟨h5, 0, none⟩ = some (.slice (some ⟨bg, og, none⟩) lp cp) ∧ w'.cell? ⟨bg, og + k * 5 + 4, none⟩ = some (.slice (some ⟨bb, ob, none⟩) ls cs) ∧ w'.cell? ⟨bb, ob + k2, none⟩ = some (.slice (some ⟨bx, ox, none⟩) ll cl) ∧ w'.cell? ⟨bx, ox + k3 * 7, none⟩ = some (.int .i64 yo) ∧ w'.cell? ⟨bx, ox + k3 * 7 + 1, none⟩ = some (.int .i64 yd) ∧ w'.cell? ⟨bx, ox + k3 * 7 + 2, none⟩ = some (.int .i64 ya) ∧ w'.cell? ⟨bx, ox + k3 * 7 + 3, none⟩ = some (.int .i64 yb) ∧ w'.cell? ⟨bx, ox + k3 * 7 + 4, none⟩ = some (.int .i64 yn) ∧ w'.cell? ⟨bx, ox + k3 * 7 + 5, none⟩ = some (.int .i64 ym) ∧ w'.cell? ⟨bx, ox + k3 * 7 + 6, none⟩ = some (.slice Ay ly cy)) (first | go_keep | (exact q7))
            (first
              | (go_at_call 15; refine (HFI3.out _ (below_drewN (Below.refl _ _) 1)).mono ?_; rintro e w7 ⟨rfl, hb7⟩; have hb7' : Below wo3.heap.size wo3 w7 := ⟨hb7.os, hb7.tape, hb7.output, hb7.size, hb7.block⟩; have q7 := HQ3.out w7 hb7'; have HB7 := hide hb7'; clear hb7 hb7'))
          all_goals
            go_wp2
            go_roundw
            case rel => exact ⟨k3 + 1, by omega, by rw [HE.out]; simp, by go_num, HBW3.out.trans (HB7.out.mono hszo3)⟩
            case measure => simp [intOf]; omega
end Go.Proofs.YtikjndimfoafjaaGreatDoor
