/- Layer 16, the reference: Right, slot. Condition: no more than 10^12 spans; 48 in slot. -/
import Derived.Test.YtojobajeffipdaaPaQO
import Derived.Test.YtojobajeffipdaaPaQH
set_option linter.unusedSimpArgs false
set_option linter.unusedVariables false
namespace Go.Proofs.Ytojobajeffipdaa
open Go.RowKit

/-- A span by what the reference asks of it. -/
theorem okN_ref {ss : List SpV} {k : Nat} {s : SpV} (hs : ss[k]? = some s) (u : SpV) (hu : spAt ss (k - 1) = u) : okN ss k = (decide (0 ≤ s.f ∧ s.f ≤ s.t ∧ s.t ≤ 1099511627776) && (!decide (0 < k ∧ (s.f < u.f ∨ (u.f = s.f ∧ s.v ≤ u.v))) && !hadN ss k s.v)) := by
  rw [okN_of hs, hu]
  have hr : decide (0 < riseN u s) = decide (s.f < u.f ∨ (u.f = s.f ∧ s.v < u.v)) := by
    refine Bool.eq_iff_iff.2 ?_
    rw [decide_eq_true_iff, rise_pos, decide_eq_true_iff]
  rw [hr]
  congr 1
  cases hh : hadN ss k s.v with
  | true => simp
  | false =>
    by_cases h0 : k = 0
    · simp [h0]
    · have hk : 0 < k := by omega
      have hne : u.v ≠ s.v := fun e => by
        have : hadN ss k s.v = true := by
          unfold hadN
          rw [List.any_eq_true]
          exact ⟨k - 1, List.mem_range.2 (by omega), by rw [hu, e]; simp⟩
        rw [hh] at this
        cases this
      simp only [h0, hk, decide_false, Bool.false_or, true_and, Bool.not_false, Bool.true_and, Bool.and_true]
      congr 1
      refine Bool.eq_iff_iff.2 ?_
      rw [decide_eq_true_iff, decide_eq_true_iff]
      omega
theorem had_yes {ss : List SpV} {k j : Nat} {v : Int} (hj : j < k) (h : (spAt ss j).v = v) : hadN ss k v = true := by
  unfold hadN
  rw [List.any_eq_true]
  exact ⟨j, List.mem_range.2 hj, by rw [h]; simp⟩
theorem had_none {ss : List SpV} {k : Nat} {v : Int} (h : ∀ j, j < k → ¬ (spAt ss j).v = v) : hadN ss k v = false := by
  unfold hadN
  rw [List.any_eq_false]
  intro j hj
  simp [h j (List.mem_range.1 hj)]
theorem size_lc : (Try.prog.info? 37).map (·.size) = some 2 := by kernel_rfl
set_option maxHeartbeats 4000000 in
set_option maxRecDepth 100000 in
theorem rrightS_any (v : Value) (ss : List SpV) (w : World) (hs : SpsV w (· < w.heap.size) v ss) (hm : ss.length ≤ 9223372036854775807) :
    Calls Try.prog 13 #[v] w fun e w' => e = .returned (.bool (rightB16 ss)) ∧ Below w.heap.size w w' := by
  obtain ⟨A, c, rfl, hc, hcm⟩ := hs.open'
  obtain ⟨n, hn⟩ := letl ss.length
  have HN := hide hn
  rw [hn] at hs hc hm ⊢
  by_cases h48 : n ≤ 48
  rotate_left
  · have HR := hide (right_long (ss := ss) (by omega))
    clear hs hn
    go_enter Try.func13, Try.ntmps13
    go_wp2
    go_ret
    exact ⟨by rw [HR.out]; rfl, Below.refl _ _⟩
  have HSP := hide (fun (W : World) (hW : Below w.heap.size w W) (b o : Nat) (hA : A = some ⟨b, o, none⟩) (j : Nat) (y : SpV) (hy : ss[j]? = some y) => (hA ▸ hs).at' hW hy)
  have HAD := hide (fun (j : Nat) (y : SpV) (hy : ss[j]? = some y) => (show (∃ b o, A = some ⟨b, o, none⟩) from by
    obtain ⟨b, o, e, -⟩ := hs.get hy
    exact ⟨b, o, e⟩))
  clear hs hn hm
  go_enter Try.func13, Try.ntmps13
  go_wp2
  go_loopw [3] (fun z wr => ∃ k : Nat, k ≤ n ∧ z = .int .i64 k ∧ Below w.heap.size w wr ∧ Hid (∀ j, j < k → okN ss j = true)) (fun z _ => n - (intOf z).toNat)
  case atStart => exact ⟨0, Nat.zero_le _, rfl, Below.refl _ _, hide (fun j h => absurd h (by omega))⟩
  case round =>
    obtain ⟨k, hk, rfl, hb, HOK⟩ := hrel
    obtain ⟨wo, rfl⟩ : ∃ wo, wo = wr := ⟨_, rfl⟩
    have HB := hide hb
    clear hb
    by_cases hlt : k < n
    case neg =>
      have HR := hide (right_all (ss := ss) (fun j hj => HOK.out j (by have := HN.out; omega)) (by have := HN.out; omega))
      go_wp2
      go_ret
      exact ⟨by rw [HR.out]; rfl, HB.out⟩
    obtain ⟨y, hy⟩ : ∃ y, ss[k]? = some y := ⟨_, List.getElem?_eq_getElem (by have := HN.out; omega)⟩
    obtain ⟨bs, os, hA⟩ := HAD.out k y hy
    subst hA
    obtain ⟨u, hu⟩ := letl (spAt ss (k - 1))
    have HE := hide (okN_ref hy u hu)
    have HNO := hide (fun (h : okN ss k = false) => right_no (ss := ss) (k := k) (by have := HN.out; omega) h)
    have HYS := hide (fun (h : okN ss k = true) (j : Nat) (hj : j < k + 1) => (show okN ss j = true from by
      by_cases e : j = k
      · subst e; exact h
      · exact HOK.out j (by omega)))
    have HSK := hide (fun (W : World) (hW : Below w.heap.size w W) => HSP.out W hW bs os rfl k _ hy)
    have HSM := hide (fun (h : 0 < k) (W : World) (hW : Below w.heap.size w W) => (show _ from hu ▸ HSP.out W hW bs os rfl (k - 1) _ (spAt_some (ss := ss) (i := k - 1) (by have := HN.out; omega))))
    obtain ⟨yv, yf, yt, yc⟩ := y
    obtain ⟨uv, uf, ut, uc⟩ := u
    obtain ⟨s0, s1, s2, s3, s4⟩ := HSK.out wo HB.out
    clear hy hu HOK
    go_wp2
    rcases (show (0 ≤ yf ∧ yf ≤ yt ∧ yt ≤ 1099511627776) ∨ (yf < 0) ∨ (¬ yf < 0 ∧ yt < yf) ∨ (¬ yf < 0 ∧ ¬ yt < yf ∧ 1099511627776 < yt) by omega) with hin | h1 | ⟨h1, h2⟩ | ⟨h1, h2, h3⟩
    rotate_left
    · have HF := hide (HNO.out (by rw [HE.out, decide_eq_false (by first | omega | (simp only; omega))]; rfl))
      have d1 : decide (yf < 0) = true := by simp; omega
      go_quiet (fail)
      go_wp2
      go_ret
      exact ⟨by rw [HF.out]; rfl, below_drewN HB.out _⟩
    · have HF := hide (HNO.out (by rw [HE.out, decide_eq_false (by first | omega | (simp only; omega))]; rfl))
      have d1 : decide (yf < 0) = false := by simp; omega
      have d2 : decide (yt < yf) = true := by simp; omega
      go_quiet (fail)
      go_wp2
      go_ret
      exact ⟨by rw [HF.out]; rfl, below_drewN HB.out _⟩
    · have HF := hide (HNO.out (by rw [HE.out, decide_eq_false (by first | omega | (simp only; omega))]; rfl))
      have d1 : decide (yf < 0) = false := by simp; omega
      have d2 : decide (yt < yf) = false := by simp; omega
      have d3 : decide (1099511627776 < yt) = true := by simp; omega
      go_quiet (fail)
      go_wp2
      go_ret
      exact ⟨by rw [HF.out]; rfl, below_drewN HB.out _⟩
    obtain ⟨i1, i2, i3⟩ := hin
    have j1 : ¬ yf < 0 := by omega
    have j2 : ¬ yt < yf := by omega
    have j3 : ¬ 1099511627776 < yt := by omega
    have HE2 := hide (show okN ss k = (!decide (0 < k ∧ (yf < uf ∨ (uf = yf ∧ yv ≤ uv))) && !hadN ss k yv) by rw [HE.out, decide_eq_true (by exact ⟨i1, i2, i3⟩)]; rfl)
    have d1 : decide (yf < 0) = false := by simp; omega
    have d2 : decide (yt < yf) = false := by simp; omega
    have d3 : decide (1099511627776 < yt) = false := by simp; omega
    clear HE i1 i2 i3
    go_quiet (fail)
    go_wp2
    clear j1 j2 j3 d1 d2 d3 s0 s1 s2 s3 s4
    obtain ⟨wq, hwq⟩ := letr (wo.drewN nq)
    have HBQ := hide (show Below w.heap.size w wq by rw [hwq]; exact below_drewN HB.out _)
    rw [← hwq]
    clear hwq
    obtain ⟨s0, s1, s2, s3, s4⟩ := HSK.out wq HBQ.out
    have hkm : IntKind.i64.wrap ((k : Int) - 1) = ((k - 1 : Nat) : Int) ∨ k = 0 := by
      rcases Nat.eq_zero_or_pos k with h | h
      · exact .inr h
      · left; rw [IntWalk.i64_in _ ⟨by omega, by omega⟩]; omega
    rcases (show ¬ 0 < k ∨ (0 < k ∧ yf < uf) ∨ (0 < k ∧ ¬ yf < uf ∧ uf = yf ∧ yv ≤ uv) ∨ (0 < k ∧ ¬ yf < uf ∧ ¬ uf = yf) ∨ (0 < k ∧ ¬ yf < uf ∧ uf = yf ∧ ¬ yv ≤ uv) by omega) with h0 | ⟨h0, h1⟩ | ⟨h0, h1, rfl, h3⟩ | ⟨h0, h1, h2⟩ | ⟨h0, h1, rfl, h3⟩
    rotate_left
    · have HF := hide (HNO.out (by rw [HE2.out, decide_eq_true (by exact ⟨h0, .inl h1⟩)]; rfl))
      obtain ⟨p0, p1, p2, p3, p4⟩ := HSM.out h0 wq HBQ.out
      have hkm := hkm.resolve_right (by omega)
      have hkn : ((k - 1 : Nat) : Int) < n := by omega
      have e1 : decide (yf < uf) = true := by simp; omega
      go_quiet (fail)
      go_wp2
      go_ret
      exact ⟨by rw [HF.out]; rfl, below_drewN HBQ.out _⟩
    · have HF := hide (HNO.out (by rw [HE2.out, decide_eq_true (by exact ⟨h0, .inr ⟨rfl, h3⟩⟩)]; rfl))
      obtain ⟨p0, p1, p2, p3, p4⟩ := HSM.out h0 wq HBQ.out
      have hkm := hkm.resolve_right (by omega)
      have hkn : ((k - 1 : Nat) : Int) < n := by omega
      have e1 : decide (uf < uf) = false := by simp
      have e3 : decide (yv ≤ uv) = true := by simp; omega
      go_quiet (fail)
      go_wp2
      go_ret
      exact ⟨by rw [HF.out]; rfl, below_drewN HBQ.out _⟩
    · have HF := hide (show okN ss k = !hadN ss k yv by rw [HE2.out, decide_eq_false (by omega)]; rfl)
      obtain ⟨p0, p1, p2, p3, p4⟩ := HSM.out h0 wq HBQ.out
      have hkm := hkm.resolve_right (by omega)
      have hkn : ((k - 1 : Nat) : Int) < n := by omega
      have e1 : decide (yf < uf) = false := by simp; omega
      have e2 : decide (uf = yf) = false := by simp; omega
      go_quiet (fail)
      go_wp2
      obtain ⟨wv, hwv⟩ := letr (wq.drewN nq)
      have HBV := hide (show Below w.heap.size w wv by rw [hwv]; exact below_drewN HBQ.out _)
      rw [← hwv]
      clear hwv
      go_loopw [4] (fun z wr => ∃ q : Nat, q ≤ k ∧ z = .int .i64 q ∧ Below w.heap.size w wr ∧ Hid (∀ j, j < q → ¬ (spAt ss j).v = yv)) (fun z _ => k - (intOf z).toNat)
      case atStart => exact ⟨0, Nat.zero_le _, rfl, HBV.out, hide (fun j h => absurd h (by omega))⟩
      case round =>
        obtain ⟨q, hq, rfl, hbq, hnn⟩ := hrel
        obtain ⟨wx, rfl⟩ : ∃ wo, wo = wr := ⟨_, rfl⟩
        have HBX := hide hbq
        clear hbq
        by_cases hlq : q < k
        case neg =>
          have HD := hide (HYS.out (by rw [HF.out, had_none (fun j hj => hnn.out j (by omega))]; rfl))
          go_wp2
          go_roundw
          case rel => exact ⟨k + 1, by omega, by go_num, HBX.out, hide (fun j hj => HD.out j hj)⟩
          case measure => simp [intOf]; omega
        obtain ⟨x, hx⟩ : ∃ y, ss[q]? = some y := ⟨_, List.getElem?_eq_getElem (by have := HN.out; omega)⟩
        obtain ⟨t0, -, -, -, t4⟩ := HSP.out wx HBX.out bs os rfl q x hx
        obtain ⟨z0, -, -, -, z4⟩ := HSK.out wx HBX.out
        have HXV := hide (spAt_of hx)
        obtain ⟨xv, xf, xt, xc⟩ := x
        have hqn : q < n := by omega
        clear hx
        by_cases hxy : xv = yv
        · have HG := hide (HNO.out (by rw [HF.out, had_yes (j := q) hlq (by rw [HXV.out]; exact hxy)]; rfl))
          subst hxy
          go_wp2
          go_quiet (fail)
          go_wp2
          go_ret
          exact ⟨by rw [HG.out]; rfl, below_drewN HBX.out _⟩
        · go_wp2
          go_quiet (fail)
          go_wp2
          go_roundw
          case rel => exact ⟨q + 1, by omega, by go_num, below_drewN HBX.out _, hide (fun j hj => by
            by_cases e : j = q
            · subst e; rw [HXV.out]; exact hxy
            · exact hnn.out j (by omega))⟩
          case measure => simp [intOf]; omega
    · have HF := hide (show okN ss k = !hadN ss k yv by rw [HE2.out, decide_eq_false (by omega)]; rfl)
      obtain ⟨p0, p1, p2, p3, p4⟩ := HSM.out h0 wq HBQ.out
      have hkm := hkm.resolve_right (by omega)
      have hkn : ((k - 1 : Nat) : Int) < n := by omega
      have e1 : decide (uf < uf) = false := by simp
      have e3 : decide (yv ≤ uv) = false := by simp; omega
      go_quiet (fail)
      go_wp2
      obtain ⟨wv, hwv⟩ := letr (wq.drewN nq)
      have HBV := hide (show Below w.heap.size w wv by rw [hwv]; exact below_drewN HBQ.out _)
      rw [← hwv]
      clear hwv
      go_loopw [4] (fun z wr => ∃ q : Nat, q ≤ k ∧ z = .int .i64 q ∧ Below w.heap.size w wr ∧ Hid (∀ j, j < q → ¬ (spAt ss j).v = yv)) (fun z _ => k - (intOf z).toNat)
      case atStart => exact ⟨0, Nat.zero_le _, rfl, HBV.out, hide (fun j h => absurd h (by omega))⟩
      case round =>
        obtain ⟨q, hq, rfl, hbq, hnn⟩ := hrel
        obtain ⟨wx, rfl⟩ : ∃ wo, wo = wr := ⟨_, rfl⟩
        have HBX := hide hbq
        clear hbq
        by_cases hlq : q < k
        case neg =>
          have HD := hide (HYS.out (by rw [HF.out, had_none (fun j hj => hnn.out j (by omega))]; rfl))
          go_wp2
          go_roundw
          case rel => exact ⟨k + 1, by omega, by go_num, HBX.out, hide (fun j hj => HD.out j hj)⟩
          case measure => simp [intOf]; omega
        obtain ⟨x, hx⟩ : ∃ y, ss[q]? = some y := ⟨_, List.getElem?_eq_getElem (by have := HN.out; omega)⟩
        obtain ⟨t0, -, -, -, t4⟩ := HSP.out wx HBX.out bs os rfl q x hx
        obtain ⟨z0, -, -, -, z4⟩ := HSK.out wx HBX.out
        have HXV := hide (spAt_of hx)
        obtain ⟨xv, xf, xt, xc⟩ := x
        have hqn : q < n := by omega
        clear hx
        by_cases hxy : xv = yv
        · have HG := hide (HNO.out (by rw [HF.out, had_yes (j := q) hlq (by rw [HXV.out]; exact hxy)]; rfl))
          subst hxy
          go_wp2
          go_quiet (fail)
          go_wp2
          go_ret
          exact ⟨by rw [HG.out]; rfl, below_drewN HBX.out _⟩
        · go_wp2
          go_quiet (fail)
          go_wp2
          go_roundw
          case rel => exact ⟨q + 1, by omega, by go_num, below_drewN HBX.out _, hide (fun j hj => by
            by_cases e : j = q
            · subst e; rw [HXV.out]; exact hxy
            · exact hnn.out j (by omega))⟩
          case measure => simp [intOf]; omega
    · have HF := hide (show okN ss k = !hadN ss k yv by rw [HE2.out, decide_eq_false (by omega)]; rfl)
      go_quiet (fail)
      go_wp2
      obtain ⟨wv, hwv⟩ := letr (wq.drewN nq)
      have HBV := hide (show Below w.heap.size w wv by rw [hwv]; exact below_drewN HBQ.out _)
      rw [← hwv]
      clear hwv
      go_loopw [4] (fun z wr => ∃ q : Nat, q ≤ k ∧ z = .int .i64 q ∧ Below w.heap.size w wr ∧ Hid (∀ j, j < q → ¬ (spAt ss j).v = yv)) (fun z _ => k - (intOf z).toNat)
      case atStart => exact ⟨0, Nat.zero_le _, rfl, HBV.out, hide (fun j h => absurd h (by omega))⟩
      case round =>
        obtain ⟨q, hq, rfl, hbq, hnn⟩ := hrel
        obtain ⟨wx, rfl⟩ : ∃ wo, wo = wr := ⟨_, rfl⟩
        have HBX := hide hbq
        clear hbq
        by_cases hlq : q < k
        case neg =>
          have HD := hide (HYS.out (by rw [HF.out, had_none (fun j hj => hnn.out j (by omega))]; rfl))
          go_wp2
          go_roundw
          case rel => exact ⟨k + 1, by omega, by go_num, HBX.out, hide (fun j hj => HD.out j hj)⟩
          case measure => simp [intOf]; omega
        exact absurd hlq (by omega)
set_option maxHeartbeats 2000000 in
set_option maxRecDepth 100000 in
theorem rslot_any (bl ol cl n cs i : Nat) (As : Option Addr) (ls : List LcV) (ss : List SpV) (w : World)
    (hl : LcsV w (· < w.heap.size) (.slice (some ⟨bl, ol, none⟩) n cl) ls) (hs : SpsV w (· < w.heap.size) (.slice As n cs) ss) (hln : ls.length = n) (hsn : ss.length = n) (hin : i < n) (hn : n ≤ 48) :
    Calls Try.prog 20 #[.slice As n cs, .slice (some ⟨bl, ol, none⟩) n cl, .int .i64 (i : Int)] w fun e w' => e = .returned (.agg #[.int .i64 2, .int .i64 ((leastN ls ss 2 (spAt ss i) : Nat) : Int)]) ∧ Below w.heap.size w w' := by
  obtain ⟨yi, hyi⟩ : ∃ y, ss[i]? = some y := ⟨_, List.getElem?_eq_getElem (by omega)⟩
  obtain ⟨bs, os, rfl, hbs, -⟩ := hs.get hyi
  rw [spAt_of hyi]
  have HSP := hide (fun (W : World) (hW : Below w.heap.size w W) (j : Nat) (y : SpV) (hy : ss[j]? = some y) => hs.at' hW hy)
  have HLC := hide (fun (W : World) (hW : Below w.heap.size w W) (j : Nat) (y : LcV) (hy : ls[j]? = some y) => hl.at' hW hy)
  obtain ⟨h1, h2, h3⟩ := least_spec ls ss 2 yi
  have h3' := hits_le ls ss 2 yi
  have hle : leastN ls ss 2 yi ≤ 48 := by omega
  have HNO := hide h1
  have HYES := hide h2
  obtain ⟨z, hz⟩ := letl (leastN ls ss 2 yi)
  rw [hz] at HNO HYES hle ⊢
  have HFA := hide (fun (m : Nat) => (show freeN ls ss (m : Int) yi n = !takenB ls ss 2 m yi by rw [← hsn]; exact free_all (by rw [hln, hsn]) _ _))
  have HLN := hide hln
  have HSN := hide hsn
  have HYI := hide hyi
  clear hs hl hln hsn hyi hbs h1 h2 h3 h3' hz
  go_enter Try.func20, Try.ntmps20
  go_upto_region 1 with (fail)
  obtain ⟨w1, hw1⟩ := letr (w.alloc (.cells #[.int .i64 0, .int .i64 0] 37))
  obtain ⟨h0, hh0⟩ := letl w.heap.size
  have HX0 := lBox hw1 hh0
  have HB1 := lBel hw1
  have HH0 := hide hh0
  rw [← hw1, hh0]
  clear hw1 hh0
  go_wp2
  go_loopw [7] (fun v wr => ∃ k : Nat, k ≤ z ∧ v = .int .i64 k ∧ Below w1.heap.size w1 wr) (fun v _ => z - (intOf v).toNat)
  case atStart => exact ⟨0, Nat.zero_le _, rfl, Below.refl _ _⟩
  case round =>
    obtain ⟨m, hm, rfl, hb⟩ := hrel
    obtain ⟨wo, rfl⟩ : ∃ wo, wo = wr := ⟨_, rfl⟩
    have HB := hide hb
    clear hb
    go_wp2
    go_loopw [8, 9] (fun a q wr => ∃ k : Nat, k ≤ n ∧ q = .int .i64 k ∧ a = .bool (freeN ls ss (m : Int) yi k) ∧ Below w1.heap.size w1 wr) (fun _ q _ => n - (intOf q).toNat)
    case atStart => exact ⟨0, Nat.zero_le _, rfl, rfl, HB.out⟩
    case round =>
      obtain ⟨k, hk, rfl, rfl, hb⟩ := hrel
      obtain ⟨wx, rfl⟩ : ∃ wo, wo = wr := ⟨_, rfl⟩
      have HBX := hide hb
      clear hb
      by_cases hlt : k < n
      case neg =>
        have e : k = n := by omega
        subst e
        have HF := HFA.out m
        obtain ⟨b, hbb⟩ := letl (takenB ls ss 2 (m : Int) yi)
        rw [hbb] at HF
        rw [HF]
        have HE := hide hbb
        clear HF hbb
        cases b
        · have he : m = z := by
            rcases Nat.lt_or_ge m z with h | h
            · have := HYES.out m h
              rw [HE.out] at this
              cases this
            · omega
          subst he
          have HXX := HX0.out.below HBX.out
          obtain ⟨c0, f0⟩ := HXX.cell 0 (v := .int .i64 0) rfl
          obtain ⟨c1, f1⟩ := HXX.cell 1 (v := .int .i64 0) rfl
          have lc := HXX.lt
          have HZ := hide (show Box ((wx.setCell ⟨h0, 0, none⟩ (.int .i64 2)).setCell ⟨h0, 1, none⟩ (.int .i64 (m : Int))) h0 #[.int .i64 2, .int .i64 (m : Int)] 37 from by have t := (HXX.set 0 (.int .i64 2)).set 1 (.int .i64 (m : Int)); simpa using t)
          have HBE := hide (show Below w.heap.size w ((wx.setCell ⟨h0, 0, none⟩ (.int .i64 2)).setCell ⟨h0, 1, none⟩ (.int .i64 (m : Int))) from ((HB1.out.trans (HBX.out.mono HB1.out.size)).setCell (p := ⟨h0, 0, none⟩) (by show w.heap.size ≤ h0; have := HH0.out; omega) _).setCell (p := ⟨h0, 1, none⟩) (by show w.heap.size ≤ h0; have := HH0.out; omega) _)
          clear HXX
          go_wp2
          refine bodyPost_ret (results_cell_row rfl _ _ h0 37 #[.int .i64 2, .int .i64 (m : Int)] (0, 0) _ (by rfl) HZ.out Try.underlying37 rfl size_lc) rfl ?_
          exact ⟨rfl, HBE.out⟩
        · have he : m < z := by
            rcases Nat.lt_or_ge m z with h | h
            · exact h
            · have e : m = z := by omega
              subst e
              have := HNO.out
              rw [HE.out] at this
              cases this
          go_wp2
          go_roundw
          case rel => exact ⟨m + 1, by omega, by go_num, HBX.out⟩
          case measure => simp [intOf]; omega
      obtain ⟨x, hx⟩ : ∃ y, ls[k]? = some y := ⟨_, List.getElem?_eq_getElem (by have := HLN.out; omega)⟩
      obtain ⟨y, hy⟩ : ∃ y, ss[k]? = some y := ⟨_, List.getElem?_eq_getElem (by have := HSN.out; omega)⟩
      have HC := hide (HB1.out.trans (HBX.out.mono HB1.out.size))
      have HNX := hide (show freeN ls ss (m : Int) yi (k + 1) = (freeN ls ss (m : Int) yi k && !(decide (x = ⟨2, (m : Int)⟩) && meetB y yi)) by rw [free_next, lcAt_of hx, spAt_of hy])
      have HCL := hide (fun (W : World) (hW : Below wx.heap.size wx W) => And.intro (HLC.out W (HC.out.trans (hW.mono HC.out.size)) k x hx) (And.intro (HSP.out W (HC.out.trans (hW.mono HC.out.size)) k y hy) (HSP.out W (HC.out.trans (hW.mono HC.out.size)) i yi HYI.out)))
      obtain ⟨fr, hfr⟩ := letl (freeN ls ss (m : Int) yi k)
      rw [hfr] at HNX ⊢
      clear hx hy hfr
      cases fr
      · have HE := hide (show freeN ls ss (m : Int) yi (k + 1) = false by rw [HNX.out]; rfl)
        go_wp2
        go_quiet (fail)
        go_wp2
        go_roundw
        case rel => exact ⟨k + 1, by omega, by go_num, by rw [HE.out], below_drewN HBX.out _⟩
        case measure => simp [intOf]; omega
      obtain ⟨xk, xn⟩ := x
      by_cases hxe : xk = 2 ∧ xn = (m : Int)
      rotate_left
      · have HE := hide (show freeN ls ss (m : Int) yi (k + 1) = true by rw [HNX.out, decide_eq_false (fun e => hxe (by injection e with e1 e2; exact ⟨e1, e2⟩))]; rfl)
        obtain ⟨⟨c0, c1, c2⟩, -⟩ := HCL.out wx (Below.refl _ _)
        rcases (show ¬ xk = 2 ∨ (xk = 2 ∧ ¬ xn = (m : Int)) by omega) with hne | ⟨rfl, hne⟩
        all_goals
          clear hxe
          go_wp2
          go_quiet (fail)
          go_wp2
          go_roundw
          case rel => exact ⟨k + 1, by omega, by go_num, by rw [HE.out], below_drewN HBX.out _⟩
          case measure => simp [intOf]; omega
      obtain ⟨rfl, rfl⟩ := hxe
      obtain ⟨yv, yf, yt, yc⟩ := y
      obtain ⟨iv, if', it, ic⟩ := yi
      have HM := hide (fun (W : World) => rmeet_any16 ⟨yv, yf, yt, yc⟩ ⟨iv, if', it, ic⟩ W)
      obtain ⟨b, hbm⟩ := letl (meetB ⟨yv, yf, yt, yc⟩ ⟨iv, if', it, ic⟩)
      rw [hbm] at HM HNX
      unfold spA at HM
      have HE := hide (show freeN ls ss (m : Int) ⟨iv, if', it, ic⟩ (k + 1) = !b by rw [HNX.out]; simp)
      clear hbm HNX
      go_upto_region 7 with (fail)
      have HKS := hide (fun (W : World) (hW : Below wx.heap.size wx W) => (show W.cell? ⟨bl, ol + k * 2, none⟩ = some (.int .i64 2) ∧ W.cell? ⟨bl, ol + k * 2 + 1, none⟩ = some (.int .i64 (m : Int)) ∧ W.cell? ⟨bs, os + k * 4, none⟩ = some (.int .i64 yv) ∧ W.cell? ⟨bs, os + k * 4 + 1, none⟩ = some (.int .i64 yf) ∧ W.cell? ⟨bs, os + k * 4 + 2, none⟩ = some (.int .i64 yt) ∧ W.cell? ⟨bs, os + k * 4 + 3, none⟩ = some (.bool yc) ∧ W.cell? ⟨bs, os + i * 4, none⟩ = some (.int .i64 iv) ∧ W.cell? ⟨bs, os + i * 4 + 1, none⟩ = some (.int .i64 if') ∧ W.cell? ⟨bs, os + i * 4 + 2, none⟩ = some (.int .i64 it) ∧ W.cell? ⟨bs, os + i * 4 + 3, none⟩ = some (.bool ic) from by obtain ⟨⟨q0, q1, -⟩, ⟨s0, s1, s2, s3, -⟩, ⟨i0, i1, i2, i3, -⟩⟩ := HCL.out W hW; exact ⟨q0, q1, s0, s1, s2, s3, i0, i1, i2, i3⟩))
      have BE0 := hide (show Below wx.heap.size wx wx.drew from below_drewN (Below.refl _ _) 1)
      refine wp_region_til (fun w' => w'.cell? ⟨bl, ol + k * 2, none⟩ = some (.int .i64 2) ∧ w'.cell? ⟨bl, ol + k * 2 + 1, none⟩ = some (.int .i64 (m : Int)) ∧ w'.cell? ⟨bs, os + k * 4, none⟩ = some (.int .i64 yv) ∧ w'.cell? ⟨bs, os + k * 4 + 1, none⟩ = some (.int .i64 yf) ∧ w'.cell? ⟨bs, os + k * 4 + 2, none⟩ = some (.int .i64 yt) ∧ w'.cell? ⟨bs, os + k * 4 + 3, none⟩ = some (.bool yc) ∧ w'.cell? ⟨bs, os + i * 4, none⟩ = some (.int .i64 iv) ∧ w'.cell? ⟨bs, os + i * 4 + 1, none⟩ = some (.int .i64 if') ∧ w'.cell? ⟨bs, os + i * 4 + 2, none⟩ = some (.int .i64 it) ∧ w'.cell? ⟨bs, os + i * 4 + 3, none⟩ = some (.bool ic)) 18 (by kernel_rfl) (HKS.out _ BE0.out) ?_
      obtain ⟨w100, hw100⟩ : ∃ w100, w100 = wx.drew := ⟨_, rfl⟩
      have BE100 := hide (show Below wx.heap.size wx w100 by rw [hw100]; exact BE0.out)
      rw [← hw100]
      have hSd := HKS.out w100 BE100.out
      clear hw100
      refine tilM 0 (Or.inr hSd) ?_
      refine tilM 1 (Or.inr hSd) ?_
      refine tilM 2 (Or.inr hSd) ?_
      refine tilM 3 (Or.inr hSd) ?_
      refine tilM 4 (Or.inr hSd) ?_
      refine tilM 6 (Or.inr hSd) ?_
      refine tilM 7 (Or.inr hSd) ?_
      refine tilD 5 [18, 9, 8] hSd ?_
      refine tilM 8 (Or.inr hSd) ?_
      refine tilM 9 (Or.inr hSd) ?_
      refine tilM 10 (Or.inr hSd) ?_
      refine tilM 11 (Or.inr hSd) ?_
      refine tilM 12 (Or.inr hSd) ?_
      refine tilM 14 (Or.inr hSd) ?_
      refine tilM 15 (Or.inr hSd) ?_
      refine tilM 16 (Or.inr hSd) ?_
      refine tilT 13 hSd ?_
      refine tilT 17 hSd ?_
      refine wpTil_ready (rs := [18]) (by kernel_rfl) (by simp) ?_
      refine AllTil.last rfl (by rfl) (fun K hK => ?_)
      rw [if_pos (by rfl)]
      go_simp
      go_at_call 28
      (with_reducible refine (HM.out w100).mono ?_)
      rintro e w101 ⟨rfl, hb2⟩
      have BE101 := hide (BE100.out.trans (hb2.mono BE100.out.size))
      clear hb2
      refine hK.out _ _ ?_
      clear hK K hSd
      try simp only [tilS, Act.put]
      refine tilM 19 (Or.inl (by rfl)) ?_
      refine tilM 20 (Or.inl (by rfl)) ?_
      refine tilM 21 (Or.inl (by rfl)) ?_
      refine tilM 22 (Or.inl (by rfl)) ?_
      refine wpTil_done (by kernel_rfl) ?_ _
      go_wp2
      go_roundw
      case rel => exact ⟨k + 1, by omega, by go_num, by rw [HE.out], HBX.out.trans (BE101.out.mono HBX.out.size)⟩
      case measure => simp [intOf]; omega
end Go.Proofs.Ytojobajeffipdaa
