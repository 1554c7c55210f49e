/- Layer 16: are spans as they must be. Condition: no more than 10^12 of them. -/
import Derived.Test.YtojobajeffipdaaPcQE
import Derived.Maps.OwnSet
set_option linter.unusedSimpArgs false
set_option linter.unusedVariables false
namespace Go.Proofs.Ytojobajeffipdaa
open Go.RowKit Go.Maps

theorem grow_below (w : World) (q : Nat) (os : Array Obj) : Below w.heap.size w (Go.Sort.grow (w.drewN q) os) :=
  ⟨rfl, rfl, rfl, by rw [Go.Sort.size_grow]; exact Nat.le_add_right _ _, fun b hb => Go.Sort.heap_grow_old (w.drewN q) os hb⟩
def litZ (k : Int) : Lit := .int .i64 k
theorem under_mapZ : Try.prog.underlying 45 = some (.map 3 46) := by kernel_rfl
theorem keyedZ : Keyed Try.prog 3 := int_keyed (q := .i64) (by kernel_rfl)
theorem zero_unitZ (w : World) : (zeroValue 46).run Try.prog w = .ok (.agg #[]) w := by kernel_rfl
theorem litZ_key {k : Int} (h : i64R k) : keyOf Try.prog 3 (.int .i64 k) = some (litZ k) := keyOf_int_mk (q := .i64) (by kernel_rfl) (WalkArith.wf_i64 h)
theorem litZ_inj {j k : Int} (h : litZ j = litZ k) : j = k := by
  unfold litZ at h
  injection h with _ h
/-- Block b is a map of at most n entries, just the numbers of T. -/
def SetZ (w : World) (b n : Nat) (T : Int → Bool) : Prop := ∃ D, w.ownsMap Try.prog 3 (unitElem (H := Unit)) b n D ∧ ∀ k : Int, i64R k → Maps.has D (litZ k) = T k
theorem SetZ.start (w : World) : SetZ (w.alloc (.map #[] 0)) w.heap.size 0 (fun _ => false) := ⟨.map [], World.ownsMap_made _ _ _ _, fun k _ => rfl⟩
theorem SetZ.kept {w w' : World} {b n : Nat} {T : Int → Bool} (h : SetZ w b n T) (hb : w'.heap[b]? = w.heap[b]?) : SetZ w' b n T := by
  obtain ⟨D, ⟨es, clock, h1, h2, h3, h4⟩, hT⟩ := h
  exact ⟨D, ⟨es, clock, hb.trans h1, h2, h3, h4⟩, hT⟩
theorem SetZ.lt {w : World} {b n : Nat} {T : Int → Bool} (h : SetZ w b n T) : b < w.heap.size := by
  obtain ⟨D, ⟨es, clock, h1, -⟩, -⟩ := h
  exact (Array.getElem?_eq_some_iff.1 h1).1
theorem SetZ.below {w w' : World} {b n : Nat} {T : Int → Bool} (h : SetZ w b n T) (hb : Below w.heap.size w w') : SetZ w' b n T := h.kept (hb.block b h.lt)
theorem SetZ.look {w : World} {b n : Nat} {T : Int → Bool} (h : SetZ w b n T) (k : Int) (hk : i64R k) : (Instr.lookup 45 (.map (some b)) (.int .i64 k) true).run Try.prog w = .ok (.tuple #[.agg #[], .bool (T k)]) w := by
  obtain ⟨D, hown, hT⟩ := h
  obtain ⟨v, ps, hrun, hat⟩ := hown.look_ok (zd := .agg []) (zp := []) keyedZ under_mapZ (zero_unitZ w) (unitElem_mk (H := Unit)) (litZ_key hk)
  rw [hT k hk] at hrun
  obtain ⟨rfl, -⟩ := unitElem_inv hat
  exact hrun
theorem has_putZ {D : DataW Unit} (hD : IsMap D) (c k : Int) (hc : i64R c) : Maps.has (D.put (litZ c) (.agg [])) (litZ k) = (Maps.has D (litZ k) || decide (c = k)) := by
  have hkey : WideAt.IsKeyLit (litZ c) := keyedZ.key (litZ_key hc)
  by_cases e : k = c
  · subst e
    rw [has_put_same hD hkey]
    simp
  · rw [has_put_other (fun h => e (litZ_inj h))]
    have : ¬ (c = k) := fun h => e h.symm
    simp [this]
theorem right_all {ss : List SpV} (h : ∀ j, j < ss.length → okN ss j = true) (h48 : ss.length ≤ 48) : rightB16 ss = true := by
  unfold rightB16
  rw [Bool.and_eq_true, List.all_eq_true]
  exact ⟨by simp [h48], fun i hi => h i (List.mem_range.1 hi)⟩
theorem right_no {ss : List SpV} {k : Nat} (hk : k < ss.length) (h : okN ss k = false) : rightB16 ss = false := by
  unfold rightB16
  rw [Bool.and_eq_false_iff]
  right
  rw [List.all_eq_false]
  exact ⟨k, List.mem_range.2 hk, by simp [h]⟩
theorem right_long {ss : List SpV} (h : ¬ ss.length ≤ 48) : rightB16 ss = false := by unfold rightB16; simp [h]
def hadN (ss : List SpV) (k : Nat) (v : Int) : Bool := (List.range k).any (fun j => decide ((spAt ss j).v = v))
theorem had_next (ss : List SpV) (k : Nat) (v : Int) : hadN ss (k + 1) v = (hadN ss k v || decide ((spAt ss k).v = v)) := by
  unfold hadN
  rw [List.range_succ, List.any_append]
  simp
theorem had_not {ss : List SpV} {k : Nat} : (List.range k).all (fun j => !decide ((spAt ss j).v = (spAt ss k).v)) = !hadN ss k (spAt ss k).v := by
  unfold hadN
  rw [List.not_any_eq_all_not]
theorem rise_pos (a b : SpV) : (0 < riseN a b) ↔ (b.f < a.f ∨ (a.f = b.f ∧ b.v < a.v)) := by
  unfold riseN orL cmpI
  simp only [List.find?]
  rcases Int.lt_trichotomy a.f b.f with h | h | h
  · have : ¬ b.f < a.f := by omega
    have h3 : ¬ a.f = b.f := by omega
    simp [h, h3, this]
    try omega
  · rcases Int.lt_trichotomy a.v b.v with h2 | h2 | h2
    · have h3 : ¬ b.v < a.v := by omega
      simp [h, h2, h3]
      try omega
    · simp [h, h2]
    · have h3 : ¬ a.v < b.v := by omega
      simp [h, h2, h3]
  · have h3 : ¬ a.f < b.f := by omega
    simp [h, h3]
/-- A span by what the program asks of it. -/
theorem okN_of {ss : List SpV} {k : Nat} {s : SpV} (hs : ss[k]? = some s) : okN ss k = (decide (0 ≤ s.f ∧ s.f ≤ s.t ∧ s.t ≤ 1099511627776) && (!hadN ss k s.v && (decide (k = 0) || !decide (0 < riseN (spAt ss (k - 1)) s)))) := by
  unfold okN
  rw [spAt_of hs]
  have e := had_not (ss := ss) (k := k)
  rw [spAt_of hs] at e
  rw [e]
  have hr : decide (0 < riseN (spAt ss (k - 1)) s) = (decide ((spAt ss (k - 1)).f > s.f) || (decide ((spAt ss (k - 1)).f = s.f) && decide ((spAt ss (k - 1)).v > s.v))) := by
    refine Bool.eq_iff_iff.2 ?_
    rw [decide_eq_true_iff, rise_pos]
    simp
  rw [hr]
  generalize (decide ((spAt ss (k - 1)).f > s.f) || (decide ((spAt ss (k - 1)).f = s.f) && decide ((spAt ss (k - 1)).v > s.v))) = x
  generalize hadN ss k s.v = y
  cases x <;> cases y <;> by_cases h0 : k = 0 <;> by_cases h1 : 0 ≤ s.f <;> by_cases h2 : s.f ≤ s.t <;> by_cases h3 : s.t ≤ 1099511627776 <;> simp [h0, h1, h2, h3]
set_option maxHeartbeats 2000000 in
set_option maxRecDepth 100000 in
theorem qright_any (v : Value) (ss : List SpV) (w : World) (hs : SpsV w (· < w.heap.size) v ss) (hm : ss.length ≤ 9223372036854775807) :
    Calls Try.prog 12 #[v] w fun e w' => e = .returned (.bool (rightB16 ss)) ∧ Below w.heap.size w w' := by
  obtain ⟨A, c, rfl, hc, hcm⟩ := hs.open'
  obtain ⟨n, hn⟩ := letl ss.length
  have HN := hide hn
  rw [hn] at hs hc hm ⊢
  by_cases h48 : n ≤ 48
  rotate_left
  · have HR := hide (right_long (ss := ss) (by omega))
    clear hs hn
    go_enter Try.func12, Try.ntmps12
    go_wp2
    go_ret
    exact ⟨by rw [HR.out]; rfl, Below.refl _ _⟩
  have HSP := hide (fun (W : World) (hW : Below w.heap.size w W) (b o : Nat) (hA : A = some ⟨b, o, none⟩) (j : Nat) (y : SpV) (hy : ss[j]? = some y) => (hA ▸ hs).at' hW hy)
  have HAD := hide (fun (j : Nat) (y : SpV) (hy : ss[j]? = some y) => (show (∃ b o, A = some ⟨b, o, none⟩) ∧ i64R y.v ∧ i64R y.f ∧ i64R y.t from by
    obtain ⟨b, o, e, -, -, hr⟩ := hs.get hy
    exact ⟨⟨b, o, e⟩, hr⟩))
  have hmm := @run_makeMap Try.prog
  clear hs hn hm
  go_enter Try.func12, Try.ntmps12
  go_upto_region 4 with (fail)
  obtain ⟨w2, hw2⟩ := letr (w.alloc (.map #[] 0))
  obtain ⟨b2, hb2⟩ := letl w.heap.size
  have HS2 := hide (show SetZ w2 b2 0 (hadN ss 0) by rw [hw2, ← hb2]; exact SetZ.start w)
  have HB2 := lBel hw2
  have HBG := hide (show w.heap.size ≤ b2 by omega)
  rw [← hw2, hb2]
  clear hw2 hb2 hmm
  go_wp2
  go_loopw [14] (fun z wr => ∃ k : Nat, k ≤ n ∧ z = .int .i64 k ∧ Below w.heap.size w wr ∧ Hid (SetZ wr b2 k (hadN ss k)) ∧ Hid (∀ j, j < k → okN ss j = true)) (fun z _ => n - (intOf z).toNat)
  case atStart => exact ⟨0, Nat.zero_le _, rfl, HB2.out, HS2, hide (fun j h => absurd h (by omega))⟩
  case round =>
    obtain ⟨k, hk, rfl, hb, HK, HOK⟩ := hrel
    obtain ⟨wo, rfl⟩ : ∃ wo, wo = wr := ⟨_, rfl⟩
    have HB := hide hb
    clear hb
    by_cases hlt : k < n
    case neg =>
      have HR := hide (right_all (ss := ss) (fun j hj => HOK.out j (by have := HN.out; omega)) (by have := HN.out; omega))
      go_wp2
      go_ret
      exact ⟨by rw [HR.out]; rfl, HB.out⟩
    obtain ⟨y, hy⟩ : ∃ y, ss[k]? = some y := ⟨_, List.getElem?_eq_getElem (by have := HN.out; omega)⟩
    obtain ⟨⟨bs, os, hA⟩, r1, r2, r3⟩ := HAD.out k y hy
    subst hA
    have HE := hide (okN_of hy)
    have HNO := hide (fun (h : okN ss k = false) => right_no (ss := ss) (k := k) (by have := HN.out; omega) h)
    have HYS := hide (fun (h : okN ss k = true) (j : Nat) (hj : j < k + 1) => (show okN ss j = true from by
      by_cases e : j = k
      · subst e; exact h
      · exact HOK.out j (by omega)))
    have HNX := hide (fun (x : Int) => (show hadN ss (k + 1) x = (hadN ss k x || decide (y.v = x)) from by rw [had_next, spAt_of hy]))
    have HSK := hide (fun (W : World) (hW : Below wo.heap.size wo W) => HSP.out W (HB.out.trans (hW.mono HB.out.size)) bs os rfl k _ hy)
    have HSM := hide (fun (h : 0 < k) (W : World) (hW : Below wo.heap.size wo W) => HSP.out W (HB.out.trans (hW.mono HB.out.size)) bs os rfl (k - 1) _ (spAt_some (ss := ss) (i := k - 1) (by have := HN.out; omega)))
    obtain ⟨u, hu⟩ := letl (spAt ss (k - 1))
    rw [hu] at HE HSM
    obtain ⟨had, hhd⟩ := letl (hadN ss k)
    rw [hhd] at HE HK HNX
    obtain ⟨yv, yf, yt, yc⟩ := y
    obtain ⟨uv, uf, ut, uc⟩ := u
    obtain ⟨s0, s1, s2, s3, s4⟩ := HSK.out wo (Below.refl _ _)
    have HRV := hide r1
    clear hy hu hhd HOK HAD r1 r2 r3
    go_upto_region 7 with (fail)
    obtain ⟨w4, hw4⟩ := letr (wo.alloc (.cells #[.int .i64 yv, .int .i64 yf, .int .i64 yt, .bool yc] 35))
    obtain ⟨h4, hh4⟩ := letl wo.heap.size
    have HX := lBox hw4 hh4
    have HB4 := lBel hw4
    rw [← hw4, hh4]
    clear hw4 hh4 s0 s1 s2 s3 s4
    have HC := hide (HB.out.trans (HB4.out.mono HB.out.size))
    have HK4 := hide (HK.out.below HB4.out)
    obtain ⟨q0, q1, q2, q3⟩ := And.intro (HX.out.cell 0 (v := .int .i64 yv) rfl).1 (And.intro (HX.out.cell 1 (v := .int .i64 yf) rfl).1 (And.intro (HX.out.cell 2 (v := .int .i64 yt) rfl).1 (HX.out.cell 3 (v := .bool yc) rfl).1))
    have lx := HX.out.lt
    rcases (show (0 ≤ yf ∧ yf ≤ yt ∧ yt ≤ 1099511627776) ∨ (yf < 0) ∨ (¬ yf < 0 ∧ yt < yf) ∨ (¬ yf < 0 ∧ ¬ yt < yf ∧ 1099511627776 < yt) by omega) with hin | h1 | ⟨h1, h2⟩ | ⟨h1, h2, h3⟩
    rotate_left
    all_goals try (
      have HF := hide (HNO.out (by rw [HE.out, decide_eq_false (by simp only; omega)]; rfl))
      go_wp2
      go_ret
      exact ⟨by rw [HF.out]; rfl, HC.out⟩)
    obtain ⟨i1, i2, i3⟩ := hin
    have j1 : ¬ yf < 0 := by omega
    have j2 : ¬ yt < yf := by omega
    have j3 : ¬ 1099511627776 < yt := by omega
    have HE2 := hide (show okN ss k = (!had yv && (decide (k = 0) || !decide (0 < riseN ⟨uv, uf, ut, uc⟩ ⟨yv, yf, yt, yc⟩))) by rw [HE.out, decide_eq_true (by exact ⟨i1, i2, i3⟩)]; rfl)
    clear HE i1 i2 i3
    go_upto_region 9 with (fail)
    clear j1 j2 j3
    have hlk := HK4.out.look yv HRV.out
    go_upto_region 10 with (fail)
    obtain ⟨w5, hw5⟩ := letr (w4.alloc (.cells #[] 46))
    obtain ⟨h5, hh5⟩ := letl w4.heap.size
    have HB5 := lBel hw5
    rw [← hw5]
    have HD5 := hide (HB4.out.trans (HB5.out.mono HB4.out.size))
    have HK5 := hide (HK4.out.below HB5.out)
    have HX5 := hide (HX.out.below HB5.out)
    clear hw5 hh5 hlk q0 q1 q2 q3 lx
    obtain ⟨t, ht⟩ := letl (had yv)
    rw [ht] at HE2 ⊢
    clear ht
    cases t
    rotate_left
    · have HF := hide (HNO.out (by rw [HE2.out]; rfl))
      go_quiet (fail)
      go_wp2
      go_ret
      exact ⟨by rw [HF.out]; rfl, below_drewN (HB.out.trans (HD5.out.mono HB.out.size)) _⟩
    rcases Nat.eq_zero_or_pos k with hk0 | hk0
    · have HF := hide (HYS.out (by rw [HE2.out, hk0]; rfl))
      have hkz : ¬ 0 < k := by omega
      clear hk0
      go_quiet (fail)
      have HKW := hide (HK5.out.below (below_drewN (Below.refl w5.heap.size w5) nq))
      have HXW := hide (HX5.out.below (below_drewN (Below.refl w5.heap.size w5) nq))
      have p0 := (HXW.out.cell 0 (v := .int .i64 yv) rfl).1
      have lp := HXW.out.lt
      obtain ⟨D, hown, hTD⟩ := HKW.out
      have HOWN := hide hown
      have HTD := hide hTD
      have hroom : k < 1000000 := by omega
      have HCW := hide (HB.out.trans ((HD5.out.trans (((below_drewN (Below.refl w5.heap.size w5) nq)).mono HD5.out.size)).mono HB.out.size))
      clear hown hTD
      go_wp2_with (at_mapUpdate; refine wpList_mapUpdate_own _ rfl _ _ _ 45 rfl 3 46 keyedZ under_mapZ (unitElem (H := Unit)) b2 k D rfl HOWN.out (by simp only [maxLen]; omega) _ _ (litZ yv) rfl rfl (litZ_key HRV.out) _ [] (unitElem_mk (H := Unit)) ?_; intro w9 hown9 hgr9; have HO9 := hide hown9; have HG9 := hide hgr9; clear hown9 hgr9)
      go_roundw
      case rel =>
        refine ⟨k + 1, by omega, by go_num, ?_, hide ⟨_, HO9.out, fun j hj => ?_⟩, hide (fun j hj => HF.out j hj)⟩
        · exact HCW.out.grown HG9.out HCW.out.size (fun z hz => by injection hz with hz; have := HBG.out; omega)
        · rw [has_putZ HOWN.out.isMap yv j HRV.out, HTD.out j hj, HNX.out j]
      case measure => simp [intOf]; omega
    have HG := hide (qrising_any ⟨uv, uf, ut, uc⟩ ⟨yv, yf, yt, yc⟩)
    obtain ⟨r, hrr⟩ := letl (riseN ⟨uv, uf, ut, uc⟩ ⟨yv, yf, yt, yc⟩)
    rw [hrr] at HG HE2
    unfold spA at HG
    have HKR := hide (fun (W : World) (hW : Below w5.heap.size w5 W) => And.intro (HSM.out hk0 W (HD5.out.trans (hW.mono HD5.out.size))) (And.intro ((HX5.out.below hW).cell 0 (v := .int .i64 yv) rfl).1 (And.intro ((HX5.out.below hW).cell 1 (v := .int .i64 yf) rfl).1 (And.intro ((HX5.out.below hW).cell 2 (v := .int .i64 yt) rfl).1 ((HX5.out.below hW).cell 3 (v := .bool yc) rfl).1))))
    have hkm : IntKind.i64.wrap ((k : Int) - 1) = ((k - 1 : Nat) : Int) := by rw [IntWalk.i64_in _ ⟨by omega, by omega⟩]; omega
    have hkn : ((k - 1 : Nat) : Int) < n := by omega
    have hk0i : (0 : Int) < (k : Int) := by omega
    clear hrr
    have HKS := hide (fun (W : World) (hW : Below w5.heap.size w5 W) => (show W.cell? ⟨bs, os + (k - 1) * 4, none⟩ = some (.int .i64 uv) ∧ W.cell? ⟨bs, os + (k - 1) * 4 + 1, none⟩ = some (.int .i64 uf) ∧ W.cell? ⟨bs, os + (k - 1) * 4 + 2, none⟩ = some (.int .i64 ut) ∧ W.cell? ⟨bs, os + (k - 1) * 4 + 3, none⟩ = some (.bool uc) ∧ W.cell? ⟨h4, 0, none⟩ = some (.int .i64 yv) ∧ W.cell? ⟨h4, 1, none⟩ = some (.int .i64 yf) ∧ W.cell? ⟨h4, 2, none⟩ = some (.int .i64 yt) ∧ W.cell? ⟨h4, 3, none⟩ = some (.bool yc) from by obtain ⟨⟨k0, k1, k2, k3, -⟩, m0, m1, m2, m3⟩ := HKR.out W hW; exact ⟨k0, k1, k2, k3, m0, m1, m2, m3⟩))
    have BE0 := hide (show Below w5.heap.size w5 w5.drew from below_drewN (Below.refl _ _) 1)
    refine wp_region_til (fun w' => w'.cell? ⟨bs, os + (k - 1) * 4, none⟩ = some (.int .i64 uv) ∧ w'.cell? ⟨bs, os + (k - 1) * 4 + 1, none⟩ = some (.int .i64 uf) ∧ w'.cell? ⟨bs, os + (k - 1) * 4 + 2, none⟩ = some (.int .i64 ut) ∧ w'.cell? ⟨bs, os + (k - 1) * 4 + 3, none⟩ = some (.bool uc) ∧ w'.cell? ⟨h4, 0, none⟩ = some (.int .i64 yv) ∧ w'.cell? ⟨h4, 1, none⟩ = some (.int .i64 yf) ∧ w'.cell? ⟨h4, 2, none⟩ = some (.int .i64 yt) ∧ w'.cell? ⟨h4, 3, none⟩ = some (.bool yc)) 11 (by kernel_rfl) (HKS.out _ BE0.out) ?_
    obtain ⟨w100, hw100⟩ : ∃ w100, w100 = w5.drew := ⟨_, rfl⟩
    have BE100 := hide (show Below w5.heap.size w5 w100 by rw [hw100]; exact BE0.out)
    rw [← hw100]
    have hSd := HKS.out w100 BE100.out
    clear hw100
    refine tilM 0 (Or.inr hSd) ?_
    refine tilM 1 (Or.inr hSd) ?_
    refine tilM 2 (Or.inr hSd) ?_
    refine tilM 3 (Or.inr hSd) ?_
    refine tilM 4 (Or.inr hSd) ?_
    refine tilM 5 (Or.inr hSd) ?_
    refine tilM 6 (Or.inr hSd) ?_
    refine tilM 7 (Or.inr hSd) ?_
    refine tilM 8 (Or.inr hSd) ?_
    refine tilT 9 hSd ?_
    refine tilT 10 hSd ?_
    refine wpTil_ready (rs := [11]) (by kernel_rfl) (by simp) ?_
    refine AllTil.last rfl (by rfl) (fun K hK => ?_)
    rw [if_pos (by rfl)]
    go_simp
    go_at_call 21
    (with_reducible refine (HG.out w100).mono ?_)
    rintro e w101 ⟨rfl, q, os2, hw101⟩
    have BE101 := hide (BE100.out.trans ((show Below w100.heap.size w100 w101 by rw [hw101]; exact grow_below _ _ _).mono BE100.out.size))
    clear hw101
    refine hK.out _ _ ?_
    clear hK K hSd
    try simp only [tilS, Act.put]
    refine tilM 12 (Or.inl (by rfl)) ?_
    refine tilM 13 (Or.inl (by rfl)) ?_
    refine tilM 14 (Or.inl (by rfl)) ?_
    refine wpTil_done (by kernel_rfl) ?_ _
    by_cases hr0 : 0 < r
    · have HF := hide (HNO.out (by rw [HE2.out]; simp [hr0]; omega))
      go_wp2
      go_ret
      exact ⟨by rw [HF.out]; rfl, HB.out.trans ((HD5.out.trans (BE101.out.mono HD5.out.size)).mono HB.out.size)⟩
    · have HF := hide (HYS.out (by rw [HE2.out]; simp [hr0]))
      have HKW := hide (HK5.out.below BE101.out)
      have HXW := hide (HX5.out.below BE101.out)
      have p0 := (HXW.out.cell 0 (v := .int .i64 yv) rfl).1
      have lp := HXW.out.lt
      obtain ⟨D, hown, hTD⟩ := HKW.out
      have HOWN := hide hown
      have HTD := hide hTD
      have hroom : k < 1000000 := by omega
      have HCW := hide (HB.out.trans ((HD5.out.trans ((BE101.out).mono HD5.out.size)).mono HB.out.size))
      clear hown hTD
      go_wp2_with (at_mapUpdate; refine wpList_mapUpdate_own _ rfl _ _ _ 45 rfl 3 46 keyedZ under_mapZ (unitElem (H := Unit)) b2 k D rfl HOWN.out (by simp only [maxLen]; omega) _ _ (litZ yv) rfl rfl (litZ_key HRV.out) _ [] (unitElem_mk (H := Unit)) ?_; intro w9 hown9 hgr9; have HO9 := hide hown9; have HG9 := hide hgr9; clear hown9 hgr9)
      go_roundw
      case rel =>
        refine ⟨k + 1, by omega, by go_num, ?_, hide ⟨_, HO9.out, fun j hj => ?_⟩, hide (fun j hj => HF.out j hj)⟩
        · exact HCW.out.grown HG9.out HCW.out.size (fun z hz => by injection hz with hz; have := HBG.out; omega)
        · rw [has_putZ HOWN.out.isMap yv j HRV.out, HTD.out j hj, HNX.out j]
      case measure => simp [intOf]; omega
end Go.Proofs.Ytojobajeffipdaa
