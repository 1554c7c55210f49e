/- The statement HeapNew, walked: it answers true. Condition: no slice of the heap is longer than any machine's memory. -/
import Derived.Test.YtjmighlchflnjaaHS
set_option linter.unusedSimpArgs false
set_option linter.unusedVariables false
namespace Go.Proofs.Ytjmighlchflnjaa
open Go.RowKit

theorem new_right {h : List ObjV} {r i : Int} (hr : rightB h = true) (h1 : r ≤ 8) (h2 : i ≤ 8) : rightB (h ++ [newO r i]) = true := by
  rw [rightB_iff] at hr ⊢
  intro p hp
  rw [List.length_append, List.length_singleton]
  rcases List.mem_append.1 hp with hp | hp
  · obtain ⟨x1, x2, x3⟩ := hr p hp
    exact ⟨x1, x2, fun z hz => by have := x3 z hz; omega⟩
  · rw [List.mem_singleton] at hp
    subst hp
    refine ⟨?_, ?_, fun z hz => ?_⟩
    · show (List.replicate r.toNat (0 : Int)).length ≤ 8
      rw [List.length_replicate]; omega
    · show (List.replicate i.toNat (0 : Int)).length ≤ 8
      rw [List.length_replicate]; omega
    · have := List.eq_of_mem_replicate (show z ∈ List.replicate r.toNat (0 : Int) from hz)
      omega
theorem new_at {h : List ObjV} {n : ObjV} {y : Int} (h1 : 1 ≤ y) (h2 : y ≤ h.length) : (h ++ [n])[(y - 1).toNat]? = h[(y - 1).toNat]? := List.getElem?_append_left (by omega)
theorem new_reach {h : List ObjV} {r i : Int} {roots : List Int} (hr : rightB h = true) (hn : ∀ z ∈ roots, z ≠ (h.length : Int) + 1) (z : Int) : RcH (h ++ [newO r i]) roots z ↔ RcH h roots z := by
  constructor
  · intro hz
    induction hz with
    | root a b c =>
      have := hn _ a
      rw [List.length_append, List.length_singleton] at c
      exact .root a b (by omega)
    | step _ ho hz h1 h2 ih =>
      have hrg := ih.rng
      rw [new_at hrg.1 hrg.2] at ho
      have := (rightB_iff.1 hr _ (List.mem_of_getElem? ho)).2.2 _ hz
      exact .step ih ho hz h1 this.2
  · intro hz
    induction hz with
    | root a b c => exact .root a b (by rw [List.length_append]; omega)
    | step hy ho hz h1 h2 ih =>
      have hrg := hy.rng
      rw [← new_at (n := newO r i) hrg.1 hrg.2] at ho
      exact .step ih ho hz h1 (by rw [List.length_append]; omega)
theorem new_is {h : List ObjV} {r i : Int} {roots l l' : List Int} (hr : rightB h = true) (h1 : r ≤ 8) (h2 : i ≤ 8) (hn : ∀ z ∈ roots, z ≠ (h.length : Int) + 1) (a : IsR (h ++ [newO r i]) roots l) (b : IsR h roots l') : l = l' := by
  refine a.one ⟨b.1, fun z => ?_⟩
  rw [b.2 z, new_reach hr hn]
  simp [hr, new_right hr h1 h2]
theorem new_one {h : List ObjV} {r i : Int} (hr : rightB h = true) (h1 : r ≤ 8) (h2 : i ≤ 8) : IsR (h ++ [newO r i]) [(h.length : Int) + 1] [(h.length : Int) + 1] := by
  refine ⟨by simp, fun z => ⟨fun hz => ⟨new_right hr h1 h2, ?_⟩, fun ⟨_, hz⟩ => ?_⟩⟩
  · rw [List.mem_singleton] at hz
    subst hz
    exact .root (by simp) (by omega) (by rw [List.length_append, List.length_singleton]; omega)
  · rw [List.mem_singleton]
    induction hz with
    | root a b c => exact List.mem_singleton.1 a
    | step hy ho hz h3 h4 ih =>
      have ih' := ih ⟨new_right hr h1 h2, hy⟩
      subst ih'
      rw [show ((h.length : Int) + 1 - 1).toNat = h.length by omega, List.getElem?_append_right (Nat.le_refl _), Nat.sub_self] at ho
      simp at ho
      subst ho
      have := List.eq_of_mem_replicate hz
      omega
set_option maxHeartbeats 4000000 in
set_option maxRecDepth 100000 in
theorem new_law (vh : Value) (h : List ObjV) (a b : Nat) (ha : a < 256) (hb : b < 256) (vr : Value) (zs : List Int) (w : World) (hh : ObjsV w (· < w.heap.size) vh h) (hr : IntsV w (· < w.heap.size) vr zs) (hsz : size9 h) :
    Calls Try.prog 7 #[.agg #[vh], .agg #[.int .u8 (a : Int), .int .u8 (b : Int)], vr] w fun e w' => e = .returned (.bool true) ∧ Below w.heap.size w w' := by
  have HAL := hide (fun (W : World) => alive9_any W)
  have HGR := hide (fun (W : World) (hW : Below w.heap.size w W) => great9_any vh h W w.heap.size hW.size (hh.keep (up hW (Nat.le_refl _)) (fun _ h => h)) hsz)
  have HHK := hide (fun (W : World) (hW : Below w.heap.size w W) => hh.keep (S' := (· < w.heap.size)) (up hW (Nat.le_refl _)) (fun _ h => h))
  have HRK := hide (fun (W : World) (hW : Below w.heap.size w W) => hr.keep (S' := (· < w.heap.size)) (up hW (Nat.le_refl _)) (fun _ h => h))
  have HRR := hide (fun (W : World) (hW : Below w.heap.size w W) => rright_any vh h W w.heap.size hW.size (hh.keep (up hW (Nat.le_refl _)) (fun _ h => h)))
  have HRCH := hide (fun (hs : small9 h) (W : World) (hW : Below w.heap.size w W) => (hreach_any vh vr h zs W w.heap.size hW.size (hh.keep (up hW (Nat.le_refl _)) (fun _ h => h)) (hr.keep (S' := (· < w.heap.size)) (up hW (Nat.le_refl _)) (fun _ h => h)) (by have := hs.1; omega)).mono (R' := fun e w' => ∃ v l, e = .returned v ∧ Hid (IsR h zs l) ∧ IntsV w' (· < w'.heap.size) v l ∧ Below W.heap.size W w') (fun e w' ⟨v, l, h1, h2, h3, h4⟩ => ⟨v, l, h1, hide h2, h3.ints (fun z hz => by have := ((h2.2 z).1 hz).2.rng; have := hs.1; unfold i64R; omega), h4⟩))
  obtain ⟨Ao, c, rfl, hc, hm⟩ := hh.open'
  obtain ⟨Ar, cr, rfl, hcr, hmr⟩ := hr.open'
  obtain ⟨n, hn⟩ : ∃ n, h.length = n := ⟨_, rfl⟩
  obtain ⟨nr, hnr⟩ : ∃ nr, zs.length = nr := ⟨_, rfl⟩
  have HN := hide hn
  have HNR := hide hnr
  rw [hn] at HGR HHK HRR HRCH ⊢
  rw [hnr] at HRK HRCH hcr ⊢
  obtain ⟨bR, hbR⟩ : ∃ bR, rightB h = bR := ⟨_, rfl⟩
  have HBR := hide hbR
  rw [hbR] at HRR
  clear hh hr hn hnr hsz hbR
  go_enter Try.func7, Try.ntmps7
  go_upto_region 1 with (fail)
  obtain ⟨w1, hw1⟩ : ∃ w1, w1 = (w.alloc (.cells #[.slice Ao n c] 24)).alloc (.cells #[.int .u8 (a : Int), .int .u8 (b : Int)] 45) := ⟨_, rfl⟩
  obtain ⟨h5, hh5⟩ : ∃ h5, w.heap.size = h5 := ⟨_, rfl⟩
  have HX0 := hide (show Box w1 (h5) #[.slice Ao n c] 24 by rw [hw1, ← hh5]; have t := Box.new w #[.slice Ao n c] 24; (try simp only [World.size_alloc] at t); exact (t.alloc _))
  have HX1 := hide (show Box w1 (h5 + 1) #[.int .u8 (a : Int), .int .u8 (b : Int)] 45 by rw [hw1, ← hh5]; have t := Box.new (w.alloc (.cells #[.slice Ao n c] 24)) #[.int .u8 (a : Int), .int .u8 (b : Int)] 45; (try simp only [World.size_alloc] at t); exact t)
  have HB1 := hide (show Below w.heap.size w w1 by rw [hw1]; exact (((Below.refl _ _).alloc (Nat.le_refl _) _).alloc (by simp only [World.size_alloc]; omega) _))
  have w1s := HB1.out.size
  have w1z := hide (show w1.heap.size = h5 + 1 + 1 by rw [hw1, ← hh5]; simp only [World.size_alloc])
  have HK0 := hide (fun (W : World) (hW : Below w1.heap.size w1 W) => ((HX0.out.below hW).cell 0 (v := .slice Ao n c) rfl).1)
  have lHX0 := HX0.out.lt
  have HK1 := hide (fun (W : World) (hW : Below w1.heap.size w1 W) => (And.intro ((HX1.out.below hW).cell 0 (v := .int .u8 (a : Int)) rfl).1 ((HX1.out.below hW).cell 1 (v := .int .u8 (b : Int)) rfl).1))
  have lHX1 := HX1.out.lt
  have h5g : w.heap.size ≤ h5 := by omega
  rw [← hw1, hh5]
  clear hw1 hh5
  have HQ := hide (fun (W : World) (hW : Below w1.heap.size w1 W) => And.intro (HK0.out W hW) (HK1.out W hW))
  obtain ⟨p0, pa0, pa1⟩ := HQ.out w1 (Below.refl _ _)
  go_upto_region 3 with (go_at_call 8; (with_reducible refine (HAL.out w1).mono ?_); rintro e w2 ⟨rfl, hb2⟩; have HC2 := hide hb2; have HB2 := hide (HB1.out.trans (hb2.mono HB1.out.size)); clear p0 pa0 pa1; obtain ⟨p0, pa0, pa1⟩ := HQ.out w2 hb2; have l2 := hb2.size; clear hb2)
  by_cases h50 : 50 < nr
  · have hd5 : decide ((nr : Int) > 50) = true := by simp; omega
    go_wp2_with (go_at_call 9; (with_reducible refine (HGR.out w2 HB2.out).mono ?_); rintro e w3 ⟨bG, rfl, hs3, hb3⟩; have HB3 := hide (HB2.out.trans (hb3.mono HB2.out.size)); clear hb3 hs3; cases bG)
    all_goals
      go_ret
      exact ⟨rfl, HB3.out⟩
  have hd5 : decide ((nr : Int) > 50) = false := by simp; omega
  cases bR
  · go_wp2_with (first
      | (go_at_call 15; (with_reducible refine (HRR.out w3 HB3.out).mono ?_); rintro e w4 ⟨rfl, hb4⟩; have HB4 := hide (HB3.out.trans (hb4.mono HB3.out.size)); clear hb4)
      | (go_at_call 9; (with_reducible refine (HGR.out w2 HB2.out).mono ?_); rintro e w3 ⟨bG, rfl, hs3, hb3⟩; have HC3 := hide (HC2.out.trans (hb3.mono HC2.out.size)); have HB3 := hide (HB2.out.trans (hb3.mono HB2.out.size)); clear p0 pa0 pa1; obtain ⟨p0, pa0, pa1⟩ := HQ.out w3 HC3.out; clear hb3 hs3; cases bG))
    all_goals
      go_ret
      first
        | exact ⟨rfl, HB4.out⟩
        | exact ⟨rfl, HB3.out⟩
  go_upto_region 5 with (first
      | (go_at_call 15; (with_reducible refine (HRR.out w3 HB3.out).mono ?_); rintro e w4 ⟨rfl, hb4⟩; have HC4 := hide (HC3.out.trans (hb4.mono HC3.out.size)); have HB4 := hide (HB3.out.trans (hb4.mono HB3.out.size)); clear p0 pa0 pa1; obtain ⟨p0, pa0, pa1⟩ := HQ.out w4 HC4.out; have l4 := HC4.out.size; clear hb4)
      | (go_at_call 9; (with_reducible refine (HGR.out w2 HB2.out).mono ?_); rintro e w3 ⟨bG, rfl, hs3, hb3⟩; have HS3 := hide hs3; have HC3 := hide (HC2.out.trans (hb3.mono HC2.out.size)); have HB3 := hide (HB2.out.trans (hb3.mono HB2.out.size)); clear p0 pa0 pa1; obtain ⟨p0, pa0, pa1⟩ := HQ.out w3 HC3.out; clear hb3 hs3; cases bG))
  all_goals try (go_ret; exact ⟨rfl, HB3.out⟩)
  have HSM := hide (HS3.out (by simp))
  have HRCH := hide (HRCH.out HSM.out)
  have hn300 : n ≤ 300 := by have := HSM.out.1; have := HN.out; omega
  obtain ⟨rn, hrn⟩ : ∃ rn, a % 9 = rn := ⟨_, rfl⟩
  obtain ⟨jn, hjn⟩ : ∃ jn, b % 9 = jn := ⟨_, rfl⟩
  have hr8 : rn ≤ 8 := by omega
  have hj8 : jn ≤ 8 := by omega
  have HALR := hide (show allocR h rn jn = (h ++ [newO rn jn], (n : Int) + 1, 0) by
    unfold allocR
    rw [if_pos (by unfold allocB sizeB; rw [HBR.out]; simp; omega), HN.out])
  have HONE := hide (show IsR (h ++ [newO rn jn]) [(n : Int) + 1] [(n : Int) + 1] by have t := new_one (r := rn) (i := jn) HBR.out (by omega) (by omega); rw [HN.out] at t; exact t)
  have HIS := hide (fun (hz : ∀ z ∈ zs, z ≠ (n : Int) + 1) (l l' : List Int) (hl : IsR (h ++ [newO rn jn]) zs l) (hl' : IsR h zs l') => new_is (r := rn) (i := jn) HBR.out (by omega) (by omega) (by rw [HN.out]; exact hz) hl hl')
  have HLX : Hid ((h ++ [newO rn jn]).length = n + 1) := hide (by rw [List.length_append, List.length_singleton, HN.out])
  have HAC := hide (fun (r i : Int) (h1 : r = (rn : Int)) (h2 : i = (jn : Int)) (W : World) (hW : Below w.heap.size w W) => (show Calls Try.prog 11 #[.agg #[.slice Ao n c], .int .i64 r, .int .i64 i] W fun e w' => ∃ A c, e = .returned (.tuple #[.agg #[.slice A (n + 1) c], .int .i64 ((n : Int) + 1), .int .i64 0]) ∧ ObjsV w' (· < w'.heap.size) (.slice A (n + 1) c) (h ++ [newO rn jn]) ∧ Below W.heap.size W w' by
    subst h1
    subst h2
    refine (halloc_any (.slice Ao n c) h rn jn W w.heap.size hW.size (HHK.out W hW) (by have := HN.out; omega)).mono (fun e w' ⟨v, h1, h2, h3⟩ => ?_)
    rw [HALR.out] at h1 h2
    obtain ⟨A, cc, e1, -, -⟩ := h2.open'
    subst e1
    rw [HLX.out] at h1 h2
    exact ⟨A, cc, h1, h2, h3⟩))
  have HRX := hide (fun (vx vr : Value) (rs : List Int) (W : World) (hx : ObjsV W (· < W.heap.size) vx (h ++ [newO rn jn])) (hr : IntsV W (· < W.heap.size) vr rs) => (hreach_any vx vr _ rs W W.heap.size (Nat.le_refl _) hx hr (by have := HLX.out; omega)).mono (R' := fun e w' => ∃ v l, e = .returned v ∧ Hid (IsR (h ++ [newO rn jn]) rs l) ∧ IntsV w' (· < w'.heap.size) v l ∧ Below W.heap.size W w') (fun e w' ⟨v, l, h1, h2, h3, h4⟩ => ⟨v, l, h1, hide h2, h3.ints (fun z hz => by have := ((h2.2 z).1 hz).2.rng; have := HLX.out; unfold i64R; omega), h4⟩))
  have HRX1 := hide (fun (vx vr : Value) (W : World) (hx : ObjsV W (· < W.heap.size) vx (h ++ [newO rn jn])) (hr : IntsV W (· < W.heap.size) vr [(n : Int) + 1]) => (HRX.out vx vr _ W hx hr).mono (R' := fun e w' => ∃ v, e = .returned v ∧ IntsV w' (· < w'.heap.size) v [(n : Int) + 1] ∧ Below W.heap.size W w') (fun e w' ⟨v, l, h1, h2, h3, h4⟩ => ⟨v, h1, by rw [← h2.out.one HONE.out]; exact h3, h4⟩))
  have HIN := hide (fun (va vb : Value) (xs ys : List Int) (hxy : xs = ys) (W : World) (ha : IntsV W (· < W.heap.size) va xs) (hb : IntsV W (· < W.heap.size) vb ys) => (rints_any va vb xs ys W W.heap.size ha hb).mono (R' := fun e w' => e = .returned (.bool true) ∧ Below W.heap.size W w') (fun e w' ⟨h1, q, h2⟩ => ⟨by rw [h1, decide_eq_true hxy], by rw [h2]; exact below_drewN (Below.refl _ _) q⟩))
  generalize h ++ [newO rn jn] = H at *
  clear HS3 HRR HGR HAL HALR HONE
  have hra : IntKind.i64.wrap (a : Int) = a := IntWalk.i64_in _ ⟨by omega, by omega⟩
  have hrb : IntKind.i64.wrap (b : Int) = b := IntWalk.i64_in _ ⟨by omega, by omega⟩
  go_upto_region 6 with (go_at_call 11; (refine (HAC.out _ _ (by first | omega | (simp; omega) | go_num | skip) (by first | omega | (simp; omega) | go_num | skip) w4 HB4.out).mono ?_); rintro e w5 ⟨Ax, cx, rfl, hx5, hb5⟩; have HX5 := hide hx5; have HC5 := hide (HC4.out.trans (hb5.mono HC4.out.size)); clear hb5 hx5)
  obtain ⟨w6, hw6⟩ : ∃ w6, w6 = w5.alloc (.cells #[.slice Ax (n + 1) cx] 24) := ⟨_, rfl⟩
  obtain ⟨h6, hh6⟩ : ∃ h6, w5.heap.size = h6 := ⟨_, rfl⟩
  have HFX0 := hide (show Box w6 (h6) #[.slice Ax (n + 1) cx] 24 by rw [hw6, ← hh6]; have t := Box.new w5 #[.slice Ax (n + 1) cx] 24; (try simp only [World.size_alloc] at t); exact t)
  have HB6 := hide (show Below w5.heap.size w5 w6 by rw [hw6]; exact ((Below.refl _ _).alloc (Nat.le_refl _) _))
  have w6s := HB6.out.size
  have w6z := hide (show w6.heap.size = h6 + 1 by rw [hw6, ← hh6]; simp only [World.size_alloc])
  have HFK0 := hide (fun (W : World) (hW : Below w6.heap.size w6 W) => ((HFX0.out.below hW).cell 0 (v := .slice Ax (n + 1) cx) rfl).1)
  have lHFX0 := HFX0.out.lt
  have h6g : w5.heap.size ≤ h6 := by omega
  rw [← hw6, hh6]
  clear hw6 hh6
  have HC6 := hide (HC5.out.trans (HB6.out.mono HC5.out.size))
  have HW6 := hide (HB1.out.trans (HC6.out.mono HB1.out.size))
  clear p0 pa0 pa1
  have HQQ := hide (fun (W : World) (hW : Below w6.heap.size w6 W) => And.intro (HFK0.out W hW) (HK0.out W (HC6.out.trans (hW.mono HC6.out.size))))
  have HXX := hide (fun (W : World) (hW : Below w6.heap.size w6 W) => (HX5.out.below HB6.out).below hW)
  have HWW := hide (fun (W : World) (hW : Below w6.heap.size w6 W) => HW6.out.trans (hW.mono HW6.out.size))
  have l6 := HC6.out.size
  obtain ⟨x0, p0⟩ := HQQ.out w6 (Below.refl _ _)
  have ez1 : IntKind.i64.wrap ((n : Int) + 1) = (n : Int) + 1 := IntWalk.i64_in _ ⟨by omega, by omega⟩
  have ez2 : ((n : Int) + 1 != (n : Int) + 1) = false := by simp
  have HLI := hide (fun (W : World) => lit_ints W #[.int .i64 ((n : Int) + 1)] 1 [(n : Int) + 1] rfl rfl (by omega) (by intro z hz; simp at hz; subst hz; unfold i64R; omega))
  have HB7 := hide (below1 w6 (.cells #[.int .i64 ((n : Int) + 1)] 3))
  have HRR := hide (HRX1.out _ _ _ (HXX.out _ HB7.out) (HLI.out w6))
  go_upto_region 8 with (first
    | (go_at_call 16; (with_reducible refine (HIN.out _ _ _ _ rfl _ (HV8.out _ (below1 w8 _)) (HLI.out w8)).mono ?_); rintro e w9 ⟨rfl, hb9⟩; have HD9 := hide (HD8.out.trans (((below1 w8 _).trans (hb9.mono (below1 w8 _).size)).mono HD8.out.size)); clear x0 p0; obtain ⟨x0, p0⟩ := HQQ.out w9 HD9.out; have l9 := HD9.out.size; clear hb9)
    | (go_at_call 17; (with_reducible refine (HRR.out).mono ?_); rintro e w8 ⟨v8, rfl, ho8, hb8⟩; have HD8 := hide (HB7.out.trans (hb8.mono HB7.out.size)); have HV8 := hide (fun (W : World) (hW : Below w8.heap.size w8 W) => ho8.below hW); clear x0 p0; obtain ⟨x0, p0⟩ := HQQ.out w8 HD8.out; have l8 := HD8.out.size; clear hb8 ho8))
  clear ez1 ez2
  go_wp2
  go_loopw [10] (fun i wr => ∃ k : Nat, k ≤ nr ∧ i = .int .i64 k ∧ Below w9.heap.size w9 wr ∧ Hid (∀ j z, j < k → zs[j]? = some z → z ≠ (n : Int) + 1)) (fun i _ => nr - (intOf i).toNat)
  case atStart => exact ⟨0, Nat.zero_le _, rfl, Below.refl _ _, hide (fun j z hj => absurd hj (Nat.not_lt_zero _))⟩
  case round =>
    obtain ⟨k, hk, rfl, hb, hno⟩ := hrel
    obtain ⟨wo, rfl⟩ : ∃ wo, wo = wr := ⟨_, rfl⟩
    have hszo := hb.size
    have HBW := hide hb
    have HDo := hide (HD9.out.trans (hb.mono HD9.out.size))
    clear x0 p0
    obtain ⟨x0, p0⟩ := HQQ.out wo HDo.out
    have lo := HDo.out.size
    clear hb
    by_cases hlt : k < nr
    · have hd1 : decide ((k : Int) < (nr : Int)) = true := by simp; omega
      have hki : (0 : Int) ≤ (k : Int) := by omega
      have hkl : (k : Int) < (nr : Int) := by omega
      obtain ⟨y, hy⟩ : ∃ y, zs[k]? = some y := ⟨_, List.getElem?_eq_getElem (by have := HNR.out; omega)⟩
      have HY := hide hy
      obtain ⟨bl, ol, hAl, hbl, c0, -⟩ := (HRK.out wo (HWW.out wo HDo.out)).get hy
      subst hAl
      have hbl2 : bl < wo.heap.size := by omega
      clear hy
      by_cases e : y = (n : Int) + 1
      · have hd2 : (y == (n : Int) + 1) = true := by simpa using e
        go_wp2
        go_ret
        exact ⟨rfl, HWW.out wo HDo.out⟩
      · have hd2 : (y == (n : Int) + 1) = false := by simpa using e
        have hv := hide (show ∀ j z, j < k + 1 → zs[j]? = some z → z ≠ (n : Int) + 1 from fun j z hj hz => by
          by_cases hjk : j = k
          · subst hjk
            rw [HY.out] at hz
            injection hz with hz
            rw [← hz]
            exact e
          · exact hno.out j z (by omega) hz)
        clear e
        go_wp2
        go_roundw
        case rel => exact ⟨k + 1, by omega, by go_num, HBW.out, hv⟩
        case measure => simp [intOf]; omega
    have hd1 : decide ((k : Int) < (nr : Int)) = false := by simp; omega
    have HEQ := hide (HIS.out (fun z hz => by
      obtain ⟨j, hj⟩ := List.mem_iff_getElem?.1 hz
      have hjl := (List.getElem?_eq_some_iff.1 hj).1
      exact hno.out j z (by have := HNR.out; omega) hj))
    have HRW := hide (fun (W : World) (hW : Below wo.heap.size wo W) => (HRK.out wo (HWW.out wo HDo.out)).keep (S' := (· < W.heap.size)) (up hW (by omega)) (fun b hb => by have := hW.size; omega))
    have HXW := hide (fun (W : World) (hW : Below wo.heap.size wo W) => HXX.out W (HDo.out.trans (hW.mono HDo.out.size)))
    have HQW := hide (fun (W : World) (hW : Below wo.heap.size wo W) => HQQ.out W (HDo.out.trans (hW.mono HDo.out.size)))
    have HWO := hide (fun (W : World) (hW : Below wo.heap.size wo W) => HWW.out W (HDo.out.trans (hW.mono HDo.out.size)))
    go_upto_region 13 with (fail)
    go_region_held3 (fun w' => w'.cell? ⟨h6, 0, none⟩ = some (.slice Ax (n + 1) cx) ∧ w'.cell? ⟨h5, 0, none⟩ = some (.slice Ao n c)) (first | go_keep | (exact q9) | (exact q8) | (exact q7))
      (first
        | (go_at_call 16; refine (HIN.out _ _ _ _ (HEQ.out _ _ HL7.out HL8.out) w8 HV7b.out HV8.out).mono ?_; rintro e w9 ⟨rfl, hb⟩; have HE9 := hide (HE8.out.trans (hb.mono HE8.out.size)); have q9 := HQW.out w9 HE9.out; clear hb)
        | (go_at_call 17; refine (HRCH.out w7 (HWO.out w7 HE7.out)).mono ?_; rintro e w8 ⟨v8, l8, rfl, HL8, hv8, hb⟩; have HE8 := hide (HE7.out.trans (hb.mono HE7.out.size)); have q8 := HQW.out w8 HE8.out; have HV8 := hide hv8; have HV7b := hide (HV7.out.below hb); clear hb hv8)
        | (go_at_call 17; refine (HRX.out _ _ _ _ (HXW.out _ (below_drewN (Below.refl _ _) 1)) (HRW.out _ (below_drewN (Below.refl _ _) 1))).mono ?_; rintro e w7 ⟨v7, l7, rfl, HL7, hv7, hb⟩; have HE7 := hide (show Below wo.heap.size wo w7 from ⟨hb.os, hb.tape, hb.output, hb.size, hb.block⟩); have q7 := HQW.out w7 HE7.out; have HV7 := hide hv7; clear hb hv7))
    go_wp2
    go_ret
    exact ⟨rfl, HWO.out _ HE9.out⟩
end Go.Proofs.Ytjmighlchflnjaa
