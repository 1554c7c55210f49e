/- Layer 9, the program: contracts of Right, maySize, has, field, object, with, put. No condition but on lengths. -/
import Derived.Test.YtjlndibeaklcdaaHC
set_option linter.unusedSimpArgs false
set_option linter.unusedVariables false
namespace Go.Proofs.Ytjlndibeaklcdaa
open Go.RowKit

theorem Ow.form {w : World} {base : Nat} {e : TypeId} {k : IntKind} {v : Value} {zs : List Int} (h : Ow w base e k v zs) (h0 : 0 < zs.length) :
    ∃ g cap, v = .slice (some ⟨g, 0, none⟩) zs.length cap ∧ base ≤ g ∧ g < w.heap.size ∧ zs.length ≤ cap ∧ cap ≤ maxLen ∧ ∀ j, j < zs.length → w.cell? ⟨g, j, none⟩ = some (.int k (zs.getD j 0)) ∧ w.frozen? ⟨g, j, none⟩ = false := by
  have h' := h
  rcases h.2 with ⟨rfl, hz⟩ | ⟨g, cap, cur, rfl, hg, hh, hnc, hcm, hsz, htake⟩
  · omega
  · refine ⟨g, cap, rfl, hg, (Array.getElem?_eq_some_iff.1 hh).1, hnc, hcm, fun j hj => ⟨?_, ?_⟩⟩
    · rw [World.ownsRow.cellAt h' j (by omega)]
      simp [List.getD, List.getElem?_eq_getElem hj]
    · simp [World.frozen?, hh]
theorem Ow.put {w : World} {base : Nat} {e : TypeId} {k : IntKind} {g n cap j : Nat} {zs : List Int} {z : Int} (h : Ow w base e k (.slice (some ⟨g, 0, none⟩) n cap) zs) : Ow (w.setCell ⟨g, j, none⟩ (.int k z)) base e k (.slice (some ⟨g, 0, none⟩) n cap) (zs.set j z) := by
  unfold Ow at *
  rcases h.2 with ⟨h0, -⟩ | ⟨g', cap', cur, hv, hg, hh, hnc, hcm, hsz, htake⟩
  · cases h0
  · injection hv with h1 h2 h3
    injection h1 with h1
    injection h1 with h1
    subst h1; subst h2; subst h3
    rw [List.length_set]
    refine ⟨by simp, .inr ⟨_, _, cur.setIfInBounds j (.int k z), rfl, hg, heap_setCell_same w _ _ cur _ _ hh, hnc, hcm, by simpa using hsz, ?_⟩⟩
    rw [Array.toList_setIfInBounds, List.take_set, htake, List.map_set]
theorem Ow.ints {w : World} {base : Nat} {v : Value} {zs : List Int} (h : Ow w base 3 .i64 v zs) (hR : ∀ z ∈ zs, i64R z) : IntsV w (· < w.heap.size) v zs :=
  ints_vec h hR fun b hb => (World.ownsRow.lt h b hb).2
theorem objC_at {l : List ObjT} {k i : Nat} {p : ObjT} (hp : l[k]? = some p) (hi : i < 2) : (l.flatMap objC)[k * 2 + i]? = (objC p)[i]? := flat_at l k i p (fun _ _ => rfl) hp hi
theorem OwC.form {w : World} {base : Nat} {v : Value} {l : List ObjT} (h : OwC objC 43 2 w base v l) (h0 : 0 < l.length) :
    ∃ g cap, v = .slice (some ⟨g, 0, none⟩) l.length cap ∧ base ≤ g ∧ g < w.heap.size ∧ l.length ≤ cap ∧ cap ≤ maxLen ∧ ∀ j, j < l.length * 2 → (∃ u, w.cell? ⟨g, j, none⟩ = some u) ∧ w.frozen? ⟨g, j, none⟩ = false := by
  have h' := h
  rcases h.2 with ⟨rfl, hz⟩ | ⟨g, cap, cur, rfl, hg, hh, hnc, hcm, hsz, htake⟩
  · omega
  · refine ⟨g, cap, rfl, hg, (Array.getElem?_eq_some_iff.1 hh).1, hnc, hcm, fun j hj => ⟨?_, ?_⟩⟩
    · rw [World.ownsRow.cellAt h' j hj]
      exact ⟨_, List.getElem?_eq_getElem (by rw [objC_len]; exact hj)⟩
    · simp [World.frozen?, hh]
theorem flat_set {l : List ObjT} {k : Nat} {p : ObjT} (hk : k < l.length) : ((l.flatMap objC).set (k * 2) p.2.1).set (k * 2 + 1) p.2.2 = (l.set k p).flatMap objC := by
  induction l generalizing k with
  | nil => simp at hk
  | cons a l ih =>
    cases k with
    | zero => rfl
    | succ k =>
      rw [List.set_cons_succ, List.flatMap_cons, List.flatMap_cons, ← ih (by simpa using hk)]
      rw [show (k + 1) * 2 = k * 2 + 1 + 1 by omega]
      rfl
theorem OwC.put {w : World} {base g n cap k : Nat} {l : List ObjT} {p : ObjT} (h : OwC objC 43 2 w base (.slice (some ⟨g, 0, none⟩) n cap) l) (hk : k < l.length) :
    OwC objC 43 2 ((w.setCell ⟨g, k * 2, none⟩ p.2.1).setCell ⟨g, k * 2 + 1, none⟩ p.2.2) base (.slice (some ⟨g, 0, none⟩) n cap) (l.set k p) := by
  unfold OwC at *
  rcases h.2 with ⟨h0, -⟩ | ⟨g', cap', cur, hv, hg, hh, hnc, hcm, hsz, htake⟩
  · cases h0
  · injection hv with h1 h2 h3
    injection h1 with h1
    injection h1 with h1
    subst h1; subst h2; subst h3
    rw [List.length_set]
    refine ⟨by rw [objC_len, List.length_set], .inr ⟨_, _, (cur.setIfInBounds (k * 2) p.2.1).setIfInBounds (k * 2 + 1) p.2.2, rfl, hg, heap_setCell_same _ _ _ _ _ _ (heap_setCell_same w _ _ cur _ _ hh), hnc, hcm, by simpa using hsz, ?_⟩⟩
    rw [Array.toList_setIfInBounds, Array.toList_setIfInBounds, List.take_set, List.take_set, htake, flat_set hk]
set_option maxHeartbeats 1000000 in
set_option maxRecDepth 100000 in
theorem hright_any (vh : Value) (h : List ObjV) (w : World) (B : Nat) (hB : B ≤ w.heap.size) (hh : ObjsV w (· < B) vh h) :
    Calls Try.prog 11 #[.agg #[vh]] w fun e w' => e = .returned (.bool (rightB h)) ∧ Below w.heap.size w w' := by
  have HK := hide (fun (W : World) (hW : Below w.heap.size w W) => hh.keep (up hW hB) (fun _ h => h))
  obtain ⟨Ao, c, rfl, hc, hm⟩ := hh.open'
  obtain ⟨n, hn⟩ : ∃ n, h.length = n := ⟨_, rfl⟩
  have HN := hide hn
  have HNW := hide (fun W => hnow_any Ao n c W)
  have HCO := hide (fun (zs : List Int) (va : Value) (hb : Nat) (W : World) (B : Nat) (hB : B ≤ W.heap.size) (hx : IntsV W (· < B) va zs) (hbx : Box W hb #[.slice Ao n c] 24) => hcont_any zs va hb Ao n c W B hB hx hbx)
  rw [hn] at HK hc ⊢
  clear hh hn
  go_enter Try.func11, Try.ntmps11
  go_upto_region 1 with (fail)
  obtain ⟨w1, hw1⟩ : ∃ w1, w1 = w.alloc (.cells #[.slice Ao n c] 24) := ⟨_, rfl⟩
  obtain ⟨h5, hh5⟩ : ∃ h5, w.heap.size = h5 := ⟨_, rfl⟩
  have HX0 := hide (show Box w1 (h5) #[.slice Ao n c] 24 by rw [hw1, ← hh5]; have t := Box.new w #[.slice Ao n c] 24; (try simp only [World.size_alloc] at t); exact t)
  have HB1 := hide (show Below w.heap.size w w1 by rw [hw1]; exact ((Below.refl _ _).alloc (Nat.le_refl _) _))
  have w1s := HB1.out.size
  have w1z := hide (show w1.heap.size = h5 + 1 by rw [hw1, ← hh5]; simp only [World.size_alloc])
  have HK0 := hide (fun (W : World) (hW : Below w1.heap.size w1 W) => ((HX0.out.below hW).cell 0 (v := .slice Ao n c) rfl).1)
  have lHX0 := HX0.out.lt
  have h5g : w.heap.size ≤ h5 := by omega
  rw [← hw1, hh5]
  clear hw1 hh5
  have p0 := HK0.out w1 (Below.refl _ _)
  go_wp2_with (go_at_call 26; (with_reducible refine (HNW.out w1).mono ?_); rintro e w2 ⟨hb, rfl, hbl, hbx, hb2⟩; have HQ2 := hide hb2; have HB2 := hide (HB1.out.trans (hb2.mono HB1.out.size)); have p2 := HK0.out w2 hb2; have HBX := hide hbx; clear hb2 hbx)
  have lbx := HBX.out.lt
  go_loopw [11] (fun i wr => ∃ k : Nat, k ≤ n ∧ i = .int .i64 k ∧ Below w2.heap.size w2 wr ∧ Hid ((h.take k).all (objB n) = true)) (fun i _ => n - (intOf i).toNat)
  case atStart => exact ⟨0, Nat.zero_le _, rfl, Below.refl _ _, hide (by simp)⟩
  case round =>
    obtain ⟨k, hk, rfl, hb', hno⟩ := hrel
    obtain ⟨wo, rfl⟩ : ∃ wo, wo = wr := ⟨_, rfl⟩
    have hszo := hb'.size
    have HBEL := hide (HB2.out.trans (hb'.mono HB2.out.size))
    have HBW := hide hb'
    have HBXO := hide (HBX.out.below hb')
    clear hb' p0 p2
    by_cases hlt : k < n
    case neg =>
      have hv := hide (show rightB h = true by unfold rightB; rw [HN.out]; exact allB_end hno.out HN.out (by omega))
      go_wp2
      go_ret
      exact ⟨ret_bool hv.out.symm, HBEL.out⟩
    obtain ⟨o, ho⟩ : ∃ o, h[k]? = some o := ⟨_, List.getElem?_eq_getElem (by have := HN.out; omega)⟩
    obtain ⟨bg, og, Ar, cr, Ai, ci, hAo, hbgb, ⟨e0, e1⟩, hi⟩ := (HK.out wo HBEL.out).get ho
    subst hAo
    have hbs : bg < wo.heap.size := by omega
    have HFA := hide (fun hf : objB n o = false => (show rightB h = false by unfold rightB; rw [HN.out]; exact allB_not ho hf))
    have HTR := hide (fun hf : objB n o = true => (show (h.take (k + 1)).all (objB n) = true from allB_take hno.out ho hf))
    have HIR := hide (fun (W : World) (hW : Below wo.heap.size wo W) => (hi.1.keep (up hW (by omega : B ≤ wo.heap.size)) (fun _ h => h)))
    have hob : objB n o = (decide (o.refs.length ≤ 8) && (decide (o.ints.length ≤ 8) && o.refs.all (rfB n))) := rfl
    have HOB := hide hob
    obtain ⟨rl, hrl⟩ : ∃ rl, o.refs.length = rl := ⟨_, rfl⟩
    obtain ⟨il, hil⟩ : ∃ il, o.ints.length = il := ⟨_, rfl⟩
    rw [hrl] at HOB e0 HIR
    rw [hil] at HOB e1
    have hmr : rl ≤ 9223372036854775807 := by obtain ⟨A, c, -, h1, h2⟩ := hi.1.open'; omega
    have hmi : il ≤ 9223372036854775807 := by obtain ⟨A, c, -, h1, h2⟩ := hi.2.open'; omega
    obtain ⟨RA, hRA⟩ : ∃ b, o.refs.all (rfB n) = b := ⟨_, rfl⟩
    have HC1 := hide (fun (va : Value) (W : World) (B : Nat) (hB : B ≤ W.heap.size) (hx : IntsV W (· < B) va o.refs) (hbx : Box W hb #[.slice (some ⟨bg, og, none⟩) n c] 24) => HCO.out o.refs va hb W B hB hx hbx)
    rw [hRA] at HOB HC1
    clear hi ho hrl hil hob hRA
    have hki : (0 : Int) ≤ (k : Int) := by omega
    have hkl : (k : Int) < (n : Int) := by omega
    go_upto_region 5 with (fail)
    obtain ⟨w4, hw4⟩ : ∃ w4, w4 = wo.alloc (.cells #[.slice Ar rl cr, .slice Ai il ci] 43) := ⟨_, rfl⟩
    obtain ⟨h6, hh6⟩ : ∃ h6, wo.heap.size = h6 := ⟨_, rfl⟩
    have HFX0 := hide (show Box w4 (h6) #[.slice Ar rl cr, .slice Ai il ci] 43 by rw [hw4, ← hh6]; have t := Box.new wo #[.slice Ar rl cr, .slice Ai il ci] 43; (try simp only [World.size_alloc] at t); exact t)
    have HB4 := hide (show Below wo.heap.size wo w4 by rw [hw4]; exact ((Below.refl _ _).alloc (Nat.le_refl _) _))
    have w4s := HB4.out.size
    have w4z := hide (show w4.heap.size = h6 + 1 by rw [hw4, ← hh6]; simp only [World.size_alloc])
    have HFK0 := hide (fun (W : World) (hW : Below w4.heap.size w4 W) => (And.intro ((HFX0.out.below hW).cell 0 (v := .slice Ar rl cr) rfl).1 ((HFX0.out.below hW).cell 1 (v := .slice Ai il ci) rfl).1))
    have lHFX0 := HFX0.out.lt
    have h6g : wo.heap.size ≤ h6 := by omega
    rw [← hw4, hh6]
    clear hw4 hh6

    obtain ⟨c0, c1⟩ := HFK0.out w4 (Below.refl _ _)
    have HBX4 := hide (HBXO.out.below HB4.out)
    clear e0 e1
    by_cases h8 : 8 < rl
    · have hv := hide (HFA.out (by rw [HOB.out]; have : decide (rl ≤ 8) = false := by simpa using h8
                                   rw [this]; rfl))
      go_wp2
      go_ret
      exact ⟨ret_bool hv.out.symm, HBEL.out.trans (HB4.out.mono HBEL.out.size)⟩
    have d8 : decide (rl ≤ 8) = true := by simpa using h8
    by_cases h9 : 8 < il
    · have hv := hide (HFA.out (by rw [HOB.out]; have : decide (il ≤ 8) = false := by simpa using h9
                                   rw [this, d8]; rfl))
      clear d8
      go_wp2
      go_ret
      exact ⟨ret_bool hv.out.symm, HBEL.out.trans (HB4.out.mono HBEL.out.size)⟩
    have d9 : decide (il ≤ 8) = true := by simpa using h9
    rw [d8, d9] at HOB
    clear d8 d9
    have HCC := hide (HC1.out _ w4 B (by omega) (HIR.out w4 HB4.out) HBX4.out)
    cases RA
    · have hv := hide (HFA.out (by rw [HOB.out]; rfl))
      go_wp2_with (go_at_call 27; (with_reducible refine (HCC.out).mono ?_); rintro e w5 ⟨rfl, hb5⟩; have HB5 := hide (HB4.out.trans (hb5.mono HB4.out.size)); clear hb5)
      go_ret
      exact ⟨ret_bool hv.out.symm, HBEL.out.trans (HB5.out.mono HBEL.out.size)⟩
    · have hv := hide (HTR.out (by rw [HOB.out]; rfl))
      go_wp2_with (go_at_call 27; (with_reducible refine (HCC.out).mono ?_); rintro e w5 ⟨rfl, hb5⟩; have HB5 := hide (HB4.out.trans (hb5.mono HB4.out.size)); clear hb5)
      go_roundw
      case rel => exact ⟨k + 1, by omega, by go_num, HBW.out.trans (HB5.out.mono hszo), hv⟩
      case measure => simp [intOf]; omega
theorem hsize_any (z : Int) (w : World) : Calls Try.prog 24 #[.int .i64 z] w fun e w' => e = .returned (.bool (sizeB z)) ∧ w = w' := by
  unfold sizeB
  by_cases h : 0 ≤ z
  · have hd : decide (0 ≤ z) = true := by simpa using h
    rw [hd]
    go_enter Try.func24, Try.ntmps24
    go_wp2
    go_ret
    exact ⟨by simp, rfl⟩
  · have hd : decide (0 ≤ z) = false := by simpa using h
    rw [hd]
    go_enter Try.func24, Try.ntmps24
    go_wp2
    go_ret
    exact ⟨by simp, rfl⟩
def hasF (m : Nat) (z : Int) : Bool := decide (0 ≤ z) && decide (z < (m : Int))
theorem hhas_any (A : Option Addr) (m c : Nat) (z : Int) (w : World) : Calls Try.prog 41 #[.slice A m c, .int .i64 z] w fun e w' => e = .returned (.bool (hasF m z)) ∧ w = w' := by
  unfold hasF
  by_cases h : 0 ≤ z
  · have hd : decide (0 ≤ z) = true := by simpa using h
    rw [hd]
    go_enter Try.func41, Try.ntmps41
    go_wp2
    go_ret
    exact ⟨by simp, rfl⟩
  · have hd : decide (0 ≤ z) = false := by simpa using h
    rw [hd]
    go_enter Try.func41, Try.ntmps41
    go_wp2
    go_ret
    exact ⟨by simp, rfl⟩
theorem hfield_any (v : Value) (zs : List Int) (z : Int) (w : World) (B : Nat) (hx : IntsV w (· < B) v zs) (hB : B ≤ w.heap.size) :
    Calls Try.prog 35 #[v, .int .i64 z] w fun e w' => e = .returned (.tuple #[.int .i64 (fldR zs z).1, .int .i64 ((fldR zs z).2 : Nat)]) ∧ w = w' := by
  obtain ⟨A, c, rfl, hc, hm⟩ := hx.open'
  obtain ⟨m, hn⟩ : ∃ m, zs.length = m := ⟨_, rfl⟩
  have HH := hide (fun W => hhas_any A m c z W)
  by_cases h : 0 ≤ z ∧ z < zs.length
  · have hf : hasF m z = true := by unfold hasF; rw [hn] at h; simp [h.1, h.2]
    have hv := fldR_val h
    obtain ⟨k, rfl⟩ : ∃ k : Nat, z = k := ⟨z.toNat, by omega⟩
    rw [Int.toNat_natCast] at hv
    obtain ⟨y, hy⟩ : ∃ y, zs[k]? = some y := ⟨_, List.getElem?_eq_getElem (by omega)⟩
    have hg : zs.getD k 0 = y := by rw [List.getD_eq_getElem?_getD, hy]; rfl
    rw [hv, hg]
    rw [hn] at hx h
    obtain ⟨b, o, rfl, hbb, c0, -⟩ := hx.get hy
    rw [hf] at HH
    rw [hn]
    have hk1 : (k : Int) < (m : Int) := h.2
    have hk0 : (0 : Int) ≤ (k : Int) := by omega
    have lb : b < w.heap.size := by omega
    clear hx hy hv hg hn hf h
    go_enter Try.func35, Try.ntmps35
    go_wp2_with (go_at_call 41; (with_reducible refine (HH.out _).mono ?_); rintro e w' ⟨rfl, rfl⟩)
    go_ret2
    exact ⟨rfl, rfl⟩
  · have hf : hasF m z = false := by
      unfold hasF
      rw [hn] at h
      by_cases h0 : 0 ≤ z
      · have : ¬ z < m := fun h1 => h ⟨h0, h1⟩
        simp [this]
      · simp [h0]
    have hv : fldR zs z = (0, 15) := by unfold fldR; rw [if_neg h]
    rw [hv, hn]
    rw [hf] at HH
    clear hx hv hn hf h
    go_enter Try.func35, Try.ntmps35
    go_wp2_with (go_at_call 41; (with_reducible refine (HH.out _).mono ?_); rintro e w' ⟨rfl, rfl⟩)
    go_ret2
    exact ⟨rfl, rfl⟩
end Go.Proofs.Ytjlndibeaklcdaa
