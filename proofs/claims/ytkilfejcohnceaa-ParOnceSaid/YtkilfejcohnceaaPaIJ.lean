/- Layer 17: the reference: Right, Same, without. Condition: no more than 1000 moves. -/
import Derived.Test.YtkilfejcohnceaaPaIH
set_option linter.unusedSimpArgs false
set_option linter.unusedVariables false
namespace Go.Proofs.Ytkilfejcohnceaa
open Go.RowKit

theorem met_no {l : List MvV} {k : Nat} {x : LcV} (h : ∀ j, j < k → (mvAt l j).t ≠ x) : metO (l.take k) x = false := by
  cases e : metO (l.take k) x
  · rfl
  · obtain ⟨m, hm, he⟩ := metO_iff.1 e
    obtain ⟨j, hj⟩ := List.getElem?_of_mem hm
    rw [List.getElem?_take] at hj
    split at hj
    · rename_i hjk
      exact absurd (by rw [mvAt_of hj]; exact he) (h j hjk)
    · cases hj
theorem met_yes {l : List MvV} {k j : Nat} {y : MvV} (hj : j < k) (hy : l[j]? = some y) : metO (l.take k) y.t = true :=
  metO_iff.2 ⟨y, List.mem_of_getElem? (i := j) (by rw [List.getElem?_take, if_pos hj]; exact hy), rfl⟩
set_option maxHeartbeats 4000000 in
set_option maxRecDepth 100000 in
theorem irright_any (v : Value) (l : List MvV) (w : World) (hl : MvsV w (· < w.heap.size) v l) (hm : l.length ≤ 1000) :
    Calls Try.prog 13 #[v] w fun e w' => e = .returned (.bool (right17 l)) ∧ Below w.heap.size w w' := by
  obtain ⟨A, c, rfl, hc, hcm⟩ := hl.open'
  obtain ⟨n, hn⟩ := letl l.length
  rw [hn] at hl hc hm ⊢
  have HS := hide (fun (W : World) (hW : Below w.heap.size w W) (b o : Nat) (hA : A = some ⟨b, o, none⟩) (j : Nat) (y : MvV) (hy : l[j]? = some y) => (hA ▸ hl).at' hW hy)
  have HAA := hide (fun (j : Nat) (y : MvV) (hy : l[j]? = some y) => (show (∃ b o, A = some ⟨b, o, none⟩) from by
    obtain ⟨b, o, e, -⟩ := hl.get hy
    exact ⟨b, o, e⟩))
  have HN := hide hn
  clear hl hn
  go_enter Try.func13, Try.ntmps13
  go_wp2
  go_loopw [3, 4] (fun i q wr => ∃ k : Nat, k ≤ n ∧ i = .int .i64 (k : Int) ∧ Below w.heap.size w wr ∧ Hid (right17 (l.take k) = true)) (fun i _ _ => n - (intOf i).toNat)
  case atStart => exact ⟨0, Nat.zero_le _, rfl, Below.refl _ _, hide rfl⟩
  case round =>
    obtain ⟨k, hk, rfl, hb, HRT⟩ := hrel
    obtain ⟨wo, rfl⟩ : ∃ wo, wo = wr := ⟨_, rfl⟩
    have HB := hide hb
    clear hb
    by_cases hlt : k < n
    case neg =>
      have HE := hide (show right17 l = true by have t := HRT.out; rwa [List.take_of_length_le (by have := HN.out; omega)] at t)
      go_wp2
      go_ret
      exact ⟨by rw [HE.out]; rfl, HB.out⟩
    have HLT := hide hlt
    obtain ⟨y, hy⟩ : ∃ y, l[k]? = some y := ⟨_, List.getElem?_eq_getElem (by have := HN.out; omega)⟩
    obtain ⟨be, oe, hA⟩ := HAA.out k y hy
    subst hA
    obtain ⟨d0, d1, d2, d3, lb⟩ := HS.out wo HB.out be oe rfl k y hy
    have HBAD := hide (fun h => right_bad hy h)
    have HNX := hide (fun h => right_next hy HRT.out h)
    have HT := hide (fun (W : World) => imay_any y.t W)
    have HF := hide (fun (W : World) => imay_any y.f W)
    have HDD := hide (fun (W : World) (hW : Below w.heap.size w W) => HS.out W hW be oe rfl k y hy)
    unfold lcA at HT HF
    obtain ⟨bt, hbt⟩ := letl (mayB17 y.t)
    obtain ⟨bf, hbf⟩ := letl (mayB17 y.f)
    rw [hbt, hbf] at HBAD HNX
    rw [hbt] at HT
    rw [hbf] at HF
    have HMT := hide (fun (h : ∀ j, j < k → (mvAt l j).t ≠ y.t) => met_no h)
    have HMY := hide (fun (j : Nat) (z : MvV) (hj : j < k) (hz : l[j]? = some z) (e : z.t = y.t) => (show metO (l.take k) y.t = true from e ▸ met_yes hj hz))
    have HYE := hide hy
    obtain ⟨⟨tk, tn⟩, ⟨fk, fn⟩⟩ := y
    simp only at d0 d1 d2 d3 HT HF HBAD HNX HMT HMY HDD
    have hk0 : (0 : Int) ≤ (k : Int) := by omega
    have hk1 : (k : Int) < (n : Int) := by omega
    clear hy hbt hbf
    cases bt with
    | false =>
      have HE := hide (HBAD.out (by simp))
      go_wp2_with (go_at_call 17; (with_reducible refine (HT.out wo).mono ?_); rintro e w7 ⟨rfl, hb7⟩)
      go_ret
      exact ⟨by rw [HE.out]; rfl, HB.out.trans (hb7.mono HB.out.size)⟩
    | true =>
      cases bf with
      | false =>
        have HE := hide (HBAD.out (by simp))
        go_wp2_with (first
          | (go_at_call 17; (with_reducible refine (HF.out w7).mono ?_); rintro e w8 ⟨rfl, hb8⟩; have c8 := hide (c7.out.trans (hb8.mono c7.out.size)); clear hb8)
          | (go_at_call 17; (with_reducible refine (HT.out wo).mono ?_); rintro e w7 ⟨rfl, hb7⟩; have c7 := hide (HB.out.trans (hb7.mono HB.out.size)); have d2 := (hb7.cell (p := ⟨be, oe + k * 4 + 2, none⟩) lb).trans d2; have d3 := (hb7.cell (p := ⟨be, oe + k * 4 + 3, none⟩) lb).trans d3; have lb : be < w7.heap.size := Nat.lt_of_lt_of_le lb hb7.size; clear hb7 d0 d1))
        go_ret
        exact ⟨by rw [HE.out]; rfl, c8.out⟩
      | true =>
        go_wp2_with (first
          | (go_at_call 17; (with_reducible refine (HF.out w7).mono ?_); rintro e w8 ⟨rfl, hb8⟩; have c8 := hide (c7.out.trans (hb8.mono c7.out.size)); clear hb8 d2 d3 lb)
          | (go_at_call 17; (with_reducible refine (HT.out wo).mono ?_); rintro e w7 ⟨rfl, hb7⟩; have c7 := hide (HB.out.trans (hb7.mono HB.out.size)); have d2 := (hb7.cell (p := ⟨be, oe + k * 4 + 2, none⟩) lb).trans d2; have d3 := (hb7.cell (p := ⟨be, oe + k * 4 + 3, none⟩) lb).trans d3; have lb : be < w7.heap.size := Nat.lt_of_lt_of_le lb hb7.size; clear hb7 d0 d1))
        go_loopw [4] (fun z wr => ∃ j : Nat, j ≤ k ∧ z = .int .i64 (j : Int) ∧ Below w.heap.size w wr ∧ Hid (∀ i, i < j → (mvAt l i).t ≠ ⟨tk, tn⟩)) (fun z _ => k - (intOf z).toNat)
        case atStart => exact ⟨0, Nat.zero_le _, rfl, c8.out, hide (fun i hi => absurd hi (by omega))⟩
        case round =>
          obtain ⟨j, hj, rfl, hb, HNO⟩ := hrel
          obtain ⟨wi, rfl⟩ : ∃ wi, wi = wr := ⟨_, rfl⟩
          have HBI := hide hb
          clear hb
          by_cases hjk : j < k
          case neg =>
            obtain rfl : j = k := by omega
            have hnn : ¬ ((j : Int) < (j : Int)) := by omega
            have HE := hide (HNX.out (by rw [HMT.out HNO.out]; simp))
            go_wp2
            go_roundw
            case rel => exact ⟨j + 1, by have := HLT.out; omega, by go_num, HBI.out, HE⟩
            case measure => have := HLT.out; simp [intOf]; omega
          have HJK := hide hjk
          obtain ⟨z, hz⟩ : ∃ y, l[j]? = some y := ⟨_, List.getElem?_eq_getElem (by have := HN.out; have := HLT.out; omega)⟩
          obtain ⟨a0, a1, a2, a3, la⟩ := HS.out wi HBI.out be oe rfl j z hz
          obtain ⟨b0, b1, b2, b3, lb⟩ := HDD.out wi HBI.out
          have HZ := hide hz
          have HME := hide (fun (e : z.t = ⟨tk, tn⟩) => HMY.out j z hjk hz e)
          have HNE := hide (fun (e : z.t ≠ ⟨tk, tn⟩) => (show ∀ i, i < j + 1 → (mvAt l i).t ≠ ⟨tk, tn⟩ from fun i hi => by
            by_cases e2 : i = j
            · subst e2
              rw [mvAt_of hz]
              exact e
            · exact HNO.out i (by omega)))
          have hj0 : (0 : Int) ≤ (j : Int) := by omega
          have hj1 : (j : Int) < (n : Int) := by have := HLT.out; omega
          have e1 := lc_cases z.t ⟨tk, tn⟩
          obtain ⟨⟨zk, zn⟩, ⟨zf, zg⟩⟩ := z
          simp only at a0 a1 e1 HME HNE
          clear hz a2 a3 b2 b3
          rcases e1 with e1 | e1
          · have HE := hide (HBAD.out (by rw [HME.out e1]; simp))
            injection e1 with e1 e2
            subst e1
            subst e2
            go_wp2
            go_quiet (fail)
            go_wp2
            go_ret
            exact ⟨by rw [HE.out]; rfl, below_drewN HBI.out _⟩
          · have HE := hide (HNE.out (fun e => by rcases e1 with h | h <;> simp_all))
            rcases e1 with e1 | ⟨e0, e1⟩
            all_goals
              try subst e0
              go_wp2
              go_quiet (fail)
              go_wp2
              go_roundw
              case rel => exact ⟨j + 1, by have := HJK.out; omega, by go_num, below_drewN HBI.out _, HE⟩
              case measure => have := HJK.out; simp [intOf]; omega
theorem list_ext_mv {a b : List MvV} (hl : a.length = b.length) (h : ∀ j, j < a.length → mvAt a j = mvAt b j) : a = b := List.ext_getElem? fun j => by
  by_cases hj : j < a.length
  · rw [mvAt_some hj, mvAt_some (by omega), h j hj]
  · rw [List.getElem?_eq_none (by omega), List.getElem?_eq_none (by omega)]
set_option maxHeartbeats 1000000 in
set_option maxRecDepth 100000 in
theorem irsame_any (v u : Value) (a b : List MvV) (w : World) (ha : MvsV w (· < w.heap.size) v a) (hb : MvsV w (· < w.heap.size) u b) (hma : a.length ≤ 9223372036854775807) (hmb : b.length ≤ 9223372036854775807) :
    Calls Try.prog 11 #[v, u] w fun e w' => e = .returned (.bool (decide (a = b))) ∧ Below w.heap.size w w' := by
  obtain ⟨A, c, rfl, hc, hcm⟩ := ha.open'
  obtain ⟨B, d, rfl, hd, hdm⟩ := hb.open'
  obtain ⟨n, hn⟩ := letl a.length
  obtain ⟨m, hm⟩ := letl b.length
  rw [hn] at ha hc hma ⊢
  rw [hm] at hb hd hmb ⊢
  by_cases hnm : n = m
  rotate_left
  · have HE := hide (decide_eq_false (fun e : a = b => hnm (by rw [← hn, ← hm, e])))
    clear ha hb hn hm
    go_enter Try.func11, Try.ntmps11
    go_wp2
    go_ret
    exact ⟨by rw [HE.out]; rfl, Below.refl _ _⟩
  subst hnm
  have HA := hide (fun (W : World) (hW : Below w.heap.size w W) (b o : Nat) (hA : A = some ⟨b, o, none⟩) (j : Nat) (y : MvV) (hy : a[j]? = some y) => (hA ▸ ha).at' hW hy)
  have HB := hide (fun (W : World) (hW : Below w.heap.size w W) (b' o : Nat) (hA : B = some ⟨b', o, none⟩) (j : Nat) (y : MvV) (hy : b[j]? = some y) => (hA ▸ hb).at' hW hy)
  have HAA := hide (fun (j : Nat) (y : MvV) (hy : a[j]? = some y) => (show (∃ b o, A = some ⟨b, o, none⟩) from by
    obtain ⟨b, o, e, -⟩ := ha.get hy
    exact ⟨b, o, e⟩))
  have HBA := hide (fun (j : Nat) (y : MvV) (hy : b[j]? = some y) => (show (∃ b o, B = some ⟨b, o, none⟩) from by
    obtain ⟨b, o, e, -⟩ := hb.get hy
    exact ⟨b, o, e⟩))
  have HN := hide hn
  have HM := hide hm
  clear ha hb hn hm
  go_enter Try.func11, Try.ntmps11
  go_wp2
  go_loopw [5] (fun z wr => ∃ k : Nat, k ≤ n ∧ z = .int .i64 k ∧ Below w.heap.size w wr ∧ Hid (∀ j, j < k → mvAt a j = mvAt b j)) (fun z _ => n - (intOf z).toNat)
  case atStart => exact ⟨0, Nat.zero_le _, rfl, Below.refl _ _, hide (fun j h => absurd h (by omega))⟩
  case round =>
    obtain ⟨k, hk, rfl, hbw, hall⟩ := hrel
    obtain ⟨wo, rfl⟩ : ∃ wo, wo = wr := ⟨_, rfl⟩
    have HW := hide hbw
    clear hbw
    by_cases hlt : k < n
    case neg =>
      have HE := hide (decide_eq_true (show a = b from list_ext_mv (by rw [HN.out, HM.out]) (fun j hj => hall.out j (by have := HN.out; omega))))
      go_wp2
      go_ret
      exact ⟨by rw [HE.out]; rfl, HW.out⟩
    obtain ⟨x, hx⟩ : ∃ y, a[k]? = some y := ⟨_, List.getElem?_eq_getElem (by have := HN.out; omega)⟩
    obtain ⟨y, hy⟩ : ∃ y, b[k]? = some y := ⟨_, List.getElem?_eq_getElem (by have := HM.out; omega)⟩
    obtain ⟨ba, oa, hA⟩ := HAA.out k x hx
    obtain ⟨bb, ob, hB⟩ := HBA.out k y hy
    subst hA
    subst hB
    have HYS := hide (fun (e : x = y) (j : Nat) (hj : j < k + 1) => (show mvAt a j = mvAt b j from by
      by_cases e2 : j = k
      · subst e2; rw [mvAt_of hx, mvAt_of hy, e]
      · exact hall.out j (by omega)))
    have HNO := hide (fun (e : ¬ x = y) => (show decide (a = b) = false from decide_eq_false (fun h => e (by have h1 := mvAt_of hx; rw [h, mvAt_of hy] at h1; exact h1.symm))))
    have hxa := HA.out wo HW.out ba oa rfl k x hx
    have hyb := HB.out wo HW.out bb ob rfl k y hy
    obtain ⟨⟨xv, xf⟩, ⟨xt, xc⟩⟩ := x
    obtain ⟨⟨yv, yf⟩, ⟨yt, yc⟩⟩ := y
    obtain ⟨a0, a1, a2, a3, la⟩ := hxa
    obtain ⟨b0, b1, b2, b3, lb⟩ := hyb
    simp only at a0 a1 a2 a3 b0 b1 b2 b3
    clear hx hy hall
    rcases (show (xv = yv ∧ xf = yf ∧ xt = yt ∧ xc = yc) ∨ (¬ xv = yv) ∨ (xv = yv ∧ ¬ xf = yf) ∨ (xv = yv ∧ xf = yf ∧ ¬ xt = yt) ∨ (xv = yv ∧ xf = yf ∧ xt = yt ∧ ¬ xc = yc) by by_cases h0 : xv = yv <;> by_cases h1 : xf = yf <;> by_cases h2 : xt = yt <;> by_cases h3 : xc = yc <;> simp [h0, h1, h2, h3]) with ⟨rfl, rfl, rfl, rfl⟩ | hne | ⟨rfl, hne⟩ | ⟨rfl, rfl, hne⟩ | ⟨rfl, rfl, rfl, hne⟩
    rotate_left
    all_goals try (
      have HE := hide (HNO.out (fun e => hne (by simp only [MvV.mk.injEq, LcV.mk.injEq] at e; simp_all)))
      go_wp2
      go_quiet (fail)
      go_wp2
      go_ret
      exact ⟨by rw [HE.out]; rfl, below_drewN HW.out _⟩)
    have HE := hide (HYS.out rfl)
    go_wp2
    go_quiet (fail)
    go_wp2
    go_roundw
    case rel => exact ⟨k + 1, by omega, by go_num, below_drewN HW.out _, hide (fun j hj => HE.out j hj)⟩
    case measure => simp [intOf]; omega
/-- append(v, x..) at a step of a region that draws its order: v the call's own, x a slice of things, nil or not. -/
theorem step_append_cs {β : Type} {c : β → List Value} {T t : TypeId} {sz : Nat} (hcl : ∀ y, (c y).length = sz) (w : World) {ops : Array Oper} {o : Oper} {a : Act} {K : Act → World → Prop} {Q : Exit → Act → World → Prop} {E : Prop} (hgd : o.guard = none) (s x : Operand)
    (ho : o.op = .call { callee := .builtin .append, args := #[s, x], argTypes := #[t, t] })
    (base : Nat) (i0 : TypeInfo) (z : Value) (bytes : Nat) (ht : Try.prog.underlying t = some (.slice T)) (hi0 : Try.prog.info? T = some i0) (hz0 : i0.zero = some z)
    (hsize : i0.size = sz) (hby : i0.bytes = bytes) (hzs : z.cells.size = sz) (hs0 : 0 < sz) (hb : bytes ≤ 1000)
    (v : Value) (l : List β) (hs : a.eval s = v) (hown : OwC c T sz w base v l)
    (A : Option Addr) (m cp : Nat) (news : List β) (hx : a.eval x = .slice A m cp) (hm : news.length = m) (h1 : ∀ u ∈ news.flatMap c, u.oneCell' = true) (hr : 0 < m → ∃ b o, A = some ⟨b, o, none⟩ ∧ ∀ (j : Nat) (u : Value), (news.flatMap c)[j]? = some u → w.cell? ⟨b, o + j, none⟩ = some u)
    (hroom : l.length + m ≤ 1000000) (hbase : base ≤ w.heap.size)
    (h : ∀ v' w', OwC c T sz w' base v' (l ++ news) → w.grownBy w' v.ownBlock → K (a.put o.dst v') w') :
    if Region.wanted o (yielded ops a.tmps) = true then Oper.wp Try.prog o a w K Q else E := by
  subst hm
  have hw : Region.wanted o (yielded ops a.tmps) = true := by simp [Region.wanted, hgd]
  rw [if_pos hw]
  have key : ∃ v' w', (Builtin.append_ #[t, t] o.type #[v, .slice A news.length cp]).run Try.prog w = .ok v' w' ∧ OwC c T sz w' base v' (l ++ news) ∧ w.grownBy w' v.ownBlock := by
    by_cases h0 : news = []
    · subst h0
      refine ⟨v, w, ?_, by simpa using hown, World.grownBy.refl _ _⟩
      rcases hown.2 with ⟨rfl, _⟩ | ⟨g, cap, cur, rfl, _, _, hnc, _⟩
      · cases A <;> simp [Builtin.append_, run_underlying ht, sizeOf, typeInfo, hi0, Builtin.lenOf, Builtin.firstCells, loadCells, loadCellsFrom]
      · cases A <;> simp [Builtin.append_, run_underlying ht, sizeOf, typeInfo, hi0, Builtin.lenOf, Builtin.firstCells, hnc, storeCells, loadCells, loadCellsFrom]
        all_goals simp [List.length_map] at hnc
        all_goals first | omega | (simp [storeCells])
    · obtain ⟨b, off, rfl, hc⟩ := hr (List.length_pos_iff.2 h0)
      obtain ⟨v', w', hrun, h2, h3, _⟩ := run_append_own (P := Try.prog) w base t o.type T i0 z sz bytes ht hi0 hz0 hsize hby hzs hs0 v l.length (l.flatMap c) hown ⟨b, off, none⟩ news.length cp (news.flatMap c) (flat_len hcl news)
        (fun j u hu => by rw [Addr.add_lit]; exact hc j u hu) h1 (by simp only [maxLen]; omega)
        (by have : (l.length + news.length) * bytes ≤ 1000000 * 1000 := Nat.mul_le_mul hroom hb; omega) hbase
      exact ⟨v', w', hrun, by unfold OwC; rw [List.flatMap_append, List.length_append]; exact h2, h3⟩
  obtain ⟨v', w', hrun, h2, h3⟩ := key
  unfold Oper.wp execOp
  simp only [ho, resolve, invoke, builtin, Sem.run_bind, Sem.run_pure, Result.andThen_ok, List.map_toArray, List.map_cons, List.map_nil, hs, hx, hrun]
  exact h v' w' h2 h3
end Go.Proofs.Ytkilfejcohnceaa
