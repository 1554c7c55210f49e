/- Layer 13, the program: Critical. Condition: the function is one of a program that may be. -/
import Derived.Test.YtnoknodijombpaaDoorPhDG
set_option linter.unusedSimpArgs false
set_option linter.unusedVariables false
namespace Go.Proofs.YtnoknodijombpaaDoor
open Go.RowKit

theorem four_box (w : World) (c0 c1 c2 c3 : Array Value) (T0 T1 T2 T3 : TypeId) (n : Nat) : Box (((((w.alloc (.cells c0 T0)).alloc (.cells c1 T1)).alloc (.cells c2 T2)).alloc (.cells c3 T3)).drewN n) w.heap.size c0 T0 ∧ Box (((((w.alloc (.cells c0 T0)).alloc (.cells c1 T1)).alloc (.cells c2 T2)).alloc (.cells c3 T3)).drewN n) (w.heap.size + 1) c1 T1 ∧ Box (((((w.alloc (.cells c0 T0)).alloc (.cells c1 T1)).alloc (.cells c2 T2)).alloc (.cells c3 T3)).drewN n) (w.heap.size + 1 + 1) c2 T2 ∧ Box (((((w.alloc (.cells c0 T0)).alloc (.cells c1 T1)).alloc (.cells c2 T2)).alloc (.cells c3 T3)).drewN n) (w.heap.size + 1 + 1 + 1) c3 T3 ∧ Below w.heap.size w (((((w.alloc (.cells c0 T0)).alloc (.cells c1 T1)).alloc (.cells c2 T2)).alloc (.cells c3 T3)).drewN n) := by
  refine ⟨(((Box.new w c0 T0).alloc _).alloc _).alloc _, ?_, ?_, ?_, below_drewN (((((Below.refl _ _).alloc (Nat.le_refl _) _).alloc (by simp) _).alloc (by simp only [World.size_alloc]; omega) _).alloc (by simp only [World.size_alloc]; omega) _) n⟩
  · have t := Box.new (w.alloc (.cells c0 T0)) c1 T1
    rw [World.size_alloc] at t
    exact (t.alloc _).alloc _
  · have t := Box.new ((w.alloc (.cells c0 T0)).alloc (.cells c1 T1)) c2 T2
    simp only [World.size_alloc] at t
    exact t.alloc _
  · have t := Box.new (((w.alloc (.cells c0 T0)).alloc (.cells c1 T1)).alloc (.cells c2 T2)) c3 T3
    simp only [World.size_alloc] at t
    exact t
theorem madeCells_zero (n : Nat) : madeCells (Value.int .i64 0).cells (n * 1) = (List.replicate n (Value.int .i64 0)).toArray := by
  unfold madeCells
  apply Array.ext
  · simp
  · intro i h1 h2
    simp [Value.cells, Nat.mod_one]
theorem CntM.inc {w : World} {g n k c : Nat} {F G : Nat → Nat} (h : CntM w g n F) (hc : F k = c) (hc2 : c ≤ 1000) (hG : ∀ a, G a = if a = k then F a + 1 else F a) : CntM (w.setCell ⟨g, k, none⟩ (.int .i64 ((c : Int) + 1))) g n G := by
  rw [show (c : Int) + 1 = ((c + 1 : Nat) : Int) by omega]
  exact h.set fun a _ => by
    rw [hG a]
    by_cases e : a = k
    · subst e; rw [if_pos rfl, if_pos rfl, hc]
    · rw [if_neg e, if_neg e]
theorem CntM.below {w w' : World} {g n : Nat} {F : Nat → Nat} (h : CntM w g n F) (hb : Below w.heap.size w w') : CntM w' g n F := Box.below h hb
theorem CntM.other {w : World} {g n h o : Nat} {F : Nat → Nat} {v : Value} (hc : CntM w g n F) (hg : g ≠ h) : CntM (w.setCell ⟨h, o, none⟩ v) g n F := Box.other hc hg
/-- Two lists of counts, each with a variable of its own. -/
def TwoW (w2 : World) (ls : Nat) (p q : Value) (wx : World) : Prop := ∃ h4 h6 gn gp : Nat, p = .pointer (some ⟨h4, 0, none⟩) ∧ q = .pointer (some ⟨h6, 0, none⟩) ∧ gn ≠ gp ∧ (w2.heap.size ≤ h4 ∧ w2.heap.size ≤ h6 ∧ w2.heap.size ≤ gn ∧ w2.heap.size ≤ gp) ∧ Box wx h4 #[.slice (some ⟨gn, 0, none⟩) ls ls] 31 ∧ Box wx h6 #[.slice (some ⟨gp, 0, none⟩) ls ls] 31 ∧ CntM wx gn ls (fun _ => 0) ∧ CntM wx gp ls (fun _ => 0) ∧ Below w2.heap.size w2 wx
theorem TwoW.mk {w2 wx : World} {ls h4 h6 gn gp : Nat} {mc : Array Value} (hmc : mc = (List.replicate ls (Value.int .i64 0)).toArray) (b4 : Box wx h4 #[.slice (some ⟨gn, 0, none⟩) ls ls] 31) (b6 : Box wx h6 #[.slice (some ⟨gp, 0, none⟩) ls ls] 31) (bn : Box wx gn mc 3) (bp : Box wx gp mc 3) (hne : gn ≠ gp) (hl : w2.heap.size ≤ h4 ∧ w2.heap.size ≤ h6 ∧ w2.heap.size ≤ gn ∧ w2.heap.size ≤ gp) (hb : Below w2.heap.size w2 wx) : TwoW w2 ls (.pointer (some ⟨h4, 0, none⟩)) (.pointer (some ⟨h6, 0, none⟩)) wx :=
  ⟨h4, h6, gn, gp, rfl, rfl, hne, hl, b4, b6, CntM.zero hmc bn, CntM.zero hmc bp, hb⟩
/-- What Critical answers. -/
def CritA (f : FunV) (w : World) (e : Ending) (w' : World) : Prop := ∃ A c, e = .returned (.slice A (critN f).length c) ∧ EdgS w' w'.heap.size A (critN f) ∧ (critN f).length ≤ c ∧ c ≤ maxLen ∧ (∀ b o, A = some ⟨b, o, none⟩ → w.heap.size ≤ b) ∧ Below w.heap.size w w'
set_option maxHeartbeats 4000000 in
set_option maxRecDepth 100000 in
theorem ecritical_any (vk vb vs : Value) (f : FunV) (w : World) (B : Nat) (hB : B ≤ w.heap.size) (hi : FunI w (· < B) vk vb vs f) (hok : FlowOk f) (hls1 : 1 ≤ f.blocks.length) :
    Calls Tryd.prog 8 #[.agg #[vk, vb, .int .i64 f.params, .int .i64 f.result, vs]] w (CritA f w) := by
  have HED := hide (fun (W : World) (hW : Below w.heap.size w W) => fedges_any vk vb vs f W B (by have := hW.size; omega) (hi.keep (up hW hB) (fun _ h => h)) hok)
  have hls40 := hok.1
  have hel := edgesN_len hok
  have HMEM := hide (fun (e : Int × Int) (he : e ∈ edgesN f) => (show ∃ a b : Nat, e = ((a : Int), (b : Int)) ∧ a < f.blocks.length ∧ b < f.blocks.length from by
    obtain ⟨a, h1, h2, h3⟩ := edgesN_mem he
    have h4 := hok.2.2 a e.2 h3
    exact ⟨a, e.2.toNat, by ext <;> simp <;> omega, h2, by omega⟩))
  have hmake : ∀ W : World, (Instr.makeSlice 31 (.int .i64 (f.blocks.length : Int)) (.int .i64 (f.blocks.length : Int))).run Tryd.prog W = .ok (.slice (some ⟨W.heap.size, 0, none⟩) f.blocks.length f.blocks.length) (W.alloc (.cells (madeCells (Value.int .i64 0).cells (f.blocks.length * 1)) 3)) := fun W => mk_run 31 3 Tryd.underlying31 info_i64 (by omega) f.blocks.length (by omega) W
  obtain ⟨mc, hmc⟩ : ∃ mc, madeCells (Value.int .i64 0).cells (f.blocks.length * 1) = mc := ⟨_, rfl⟩
  rw [hmc] at hmake
  have HFR := hide (fun (a : Nat) (ha : a < f.blocks.length) => ecF_all (f := f) (j := (edgesN f).length) (Nat.le_refl _) ha)
  have HTO := hide (fun (a : Nat) => ecT_all (f := f) (j := (edgesN f).length) (a := a) (Nat.le_refl _))
  have HCR := hide (show (edgesN f).filter (critB f) = critN f from rfl)
  obtain ⟨Ak, ck, rfl, hck, hmk⟩ := hi.1.open'
  obtain ⟨Ab, cb, rfl, hcb, hmb⟩ := hi.2.1.open'
  obtain ⟨As, cs, rfl, hcs, hms⟩ := hi.2.2.1.open'
  obtain ⟨ls, hls⟩ : ∃ ls, f.blocks.length = ls := ⟨_, rfl⟩
  rw [hls] at HED hls40 HMEM hmake hmc HFR hcs hls1 ⊢
  obtain ⟨es, hes⟩ : ∃ es, edgesN f = es := ⟨_, rfl⟩
  rw [hes] at HED hel HMEM HFR HTO HCR
  obtain ⟨n, hn⟩ : ∃ n, es.length = n := ⟨_, rfl⟩
  have HN := hide hn
  rw [hn] at hel HFR HTO
  clear hi hok hls hes hn
  generalize f.kinds.length = lk, f.base.length = lb, f.params = fp, f.result = fr at *
  go_enter Tryd.func8, Tryd.ntmps8
  go_upto_region 1 with (fail)
  obtain ⟨w1, hw1⟩ : ∃ w1, w1 = w.alloc (.cells #[.slice Ak lk ck, .slice Ab lb cb, .int .i64 fp, .int .i64 fr, .slice As ls cs] 34) := ⟨_, rfl⟩
  obtain ⟨h5, hh5⟩ : ∃ h5, w.heap.size = h5 := ⟨_, rfl⟩
  have HX0 := hide (show Box w1 (h5) #[.slice Ak lk ck, .slice Ab lb cb, .int .i64 fp, .int .i64 fr, .slice As ls cs] 34 by rw [hw1, ← hh5]; exact Box.new w _ _)
  have HB1 := hide (show Below w.heap.size w w1 by rw [hw1]; exact alloc1 w _)
  have w1s := HB1.out.size
  have HK0 := hide (fun (W : World) (hW : Below w1.heap.size w1 W) => (And.intro ((HX0.out.below hW).cell 0 (v := .slice Ak lk ck) rfl).1 (And.intro ((HX0.out.below hW).cell 1 (v := .slice Ab lb cb) rfl).1 (And.intro ((HX0.out.below hW).cell 2 (v := .int .i64 fp) rfl).1 (And.intro ((HX0.out.below hW).cell 3 (v := .int .i64 fr) rfl).1 ((HX0.out.below hW).cell 4 (v := .slice As ls cs) rfl).1)))))
  have lHX0 := HX0.out.lt
  rw [← hw1, hh5]
  clear hw1 hh5
  obtain ⟨c0, c1, c2, c3, c4⟩ := HK0.out w1 (Below.refl _ _)
  go_upto_region 2 with (go_at_call 14; (with_reducible refine (HED.out w1 HB1.out).mono ?_); rintro e w2 ⟨v2, rfl, ho2, hb2⟩; obtain ⟨A2, k2, hv2, hc2, hm2, hs2⟩ := ho2.sl; rw [HN.out] at hv2 hc2; subst hv2; have HO2 := hide ho2; have HC2 := hide hb2; have p2 := HK0.out w2 hb2; clear ho2 hb2 c0 c1 c2 c3 c4)
  obtain ⟨c0, c1, c2, c3, c4⟩ := p2
  have w2s := HC2.out.size
  have HS2 := hide hs2
  have lx2 : h5 < w2.heap.size := by omega
  clear hs2 c0 c1 c2 c3
  have HMC := hide (show mc = (List.replicate ls (Value.int .i64 0)).toArray by rw [← hmc]; exact madeCells_zero ls)
  go_cut [4, 5] from 9 (fun p q wx => TwoW w2 ls p q wx)
  case first =>
    have r1 : ∀ o1, (w2.alloc o1).cell? ⟨h5, 4, none⟩ = some (.slice As ls cs) := fun o1 => (World.cell?_alloc_lt w2 o1 ⟨h5, 4, none⟩ lx2).trans c4
    have r2 : ∀ o1 o2, ((w2.alloc o1).alloc o2).cell? ⟨h5, 4, none⟩ = some (.slice As ls cs) := fun o1 o2 => (World.cell?_alloc_lt _ o2 ⟨h5, 4, none⟩ (by show h5 < _; rw [World.size_alloc]; omega)).trans (r1 o1)
    have r3 : ∀ o1 o2 o3, (((w2.alloc o1).alloc o2).alloc o3).cell? ⟨h5, 4, none⟩ = some (.slice As ls cs) := fun o1 o2 o3 => (World.cell?_alloc_lt _ o3 ⟨h5, 4, none⟩ (by show h5 < _; simp only [World.size_alloc]; omega)).trans (r2 o1 o2)
    go_region
    all_goals
      go_wp2_with fail
      go_meet
      case rel =>
        obtain ⟨b0, b1, b2, b3, hb⟩ := four_box w2 _ _ _ _ _ _ _ _ 1
        refine TwoW.mk HMC.out (by first | exact b0 | exact b1 | exact b2 | exact b3) (by first | exact b0 | exact b1 | exact b2 | exact b3) (by first | exact b0 | exact b1 | exact b2 | exact b3) (by first | exact b0 | exact b1 | exact b2 | exact b3) (by omega) (by omega) hb
  case rest =>
    obtain ⟨h4, h6, gn, gp, rfl, rfl, hne, ⟨g1, g2, g3, g4⟩, hx4, hx6, hcn, hcp, hbw⟩ := hcut
    have HX4 := hide hx4
    have HX6 := hide hx6
    have HCN := hide hcn
    have HCP := hide hcp
    have HBW := hide hbw
    have hne1 : h4 ≠ gn := fun e => by
      have k1 := hx4.tb
      rw [e] at k1
      exact absurd (k1.one (Box.tb hcn)) (by decide)
    have hne2 : h4 ≠ gp := fun e => by
      have k1 := hx4.tb
      rw [e] at k1
      exact absurd (k1.one (Box.tb hcp)) (by decide)
    have hne3 : h6 ≠ gn := fun e => by
      have k1 := hx6.tb
      rw [e] at k1
      exact absurd (k1.one (Box.tb hcn)) (by decide)
    have hne4 : h6 ≠ gp := fun e => by
      have k1 := hx6.tb
      rw [e] at k1
      exact absurd (k1.one (Box.tb hcp)) (by decide)
    clear hx4 hx6 hcn hcp hbw hmake hmc
    go_wp2
    go_loopw [21] (fun i wr => ∃ k : Nat, k ≤ n ∧ i = .int .i64 (k : Int) ∧ Hid (CntM wr gn ls (ecF es k)) ∧ Hid (CntM wr gp ls (ecT es k)) ∧ Hid (Box wr h4 #[.slice (some ⟨gn, 0, none⟩) ls ls] 31) ∧ Hid (Box wr h6 #[.slice (some ⟨gp, 0, none⟩) ls ls] 31) ∧ Below w2.heap.size w2 wr) (fun i _ => n - (intOf i).toNat)
    case atStart => exact ⟨0, Nat.zero_le _, rfl, hide (by have t := HCN.out; exact t), hide (by have t := HCP.out; exact t), HX4, HX6, HBW.out⟩
    case round =>
      obtain ⟨k, hk, rfl, HF, HG, H4, H6, hb⟩ := hrel
      obtain ⟨wo, rfl⟩ : ∃ wo, wo = wr := ⟨_, rfl⟩
      have HB := hide hb
      have lwo := hb.size
      clear hb
      by_cases hlt : k < n
      case neg =>
        obtain rfl : n = k := by omega
        have hnl : ¬ ((n : Int) < (n : Int)) := by omega
        have HOW := hide (show OwE wo w1.heap.size (.slice A2 n k2) es from HO2.out.below HB.out)
        have hown : ∀ x, w2.heap.size ≤ x → (Value.slice A2 n k2).ownBlock ≠ some x := fun x hx e => by
          have := (World.ownsRow.lt HO2.out x e).2
          omega
        have hq : ∀ (W : World), FrG (Value.slice A2 n k2).ownBlock wo W → ∀ e ∈ es, Calls Tryd.prog 15 #[.agg #[.int .i64 e.1, .int .i64 e.2], .pointer (some ⟨h4, 0, none⟩), .pointer (some ⟨h6, 0, none⟩)] W fun x w' => x = .returned (.bool (!critB f e)) ∧ Below W.heap.size W w' := fun W hW e he => by
          obtain ⟨a, b, rfl, ha, hb⟩ := HMEM.out e he
          have t := pl1_any h4 h6 gn gp ls a b (ecF es n) (ecT es n) W (hW.box H4.out (hown h4 g1)) (hW.box H6.out (hown h6 g2)) (hW.box HF.out (hown gn g3)) (hW.box HG.out (hown gp g4)) ha hb
          have e1 : (decide (ecF es n a < 2) || decide (ecT es n b < 2)) = !critB f ((a : Int), (b : Int)) := by
            unfold critB
            rw [HFR.out a ha, HTO.out b, Int.toNat_natCast, Bool.eq_iff_iff]
            simp only [Bool.or_eq_true, decide_eq_true_eq, Bool.not_eq_true', Bool.and_eq_false_iff, decide_eq_false_iff_not]
            omega
          rw [e1] at t
          exact t
        have HCE : es.filter (fun e => !(fun e => !critB f e) e) = critN f := by
          rw [← HCR.out]
          congr 1
          funext e
          simp
        have HDE := hide (show Calls Tryd.prog 16 #[.slice A2 n k2, .func (.func 15) #[] #[.pointer (some ⟨h4, 0, none⟩), .pointer (some ⟨h6, 0, none⟩)]] wo fun e w' => ∃ A c, e = .returned (.slice A (critN f).length c) ∧ EdgS w' w'.heap.size A (critN f) ∧ (critN f).length ≤ c ∧ c ≤ maxLen ∧ (∀ b o, A = some ⟨b, o, none⟩ → w1.heap.size ≤ b) ∧ Below w1.heap.size wo w' by
          have t := edelete_any h4 h6 w1.heap.size (fun e => !critB f e) es A2 k2 wo (by have := HN.out; omega) (by rw [HN.out]; exact HOW.out) (by omega) (by rw [HN.out]; exact hq)
          rw [HN.out] at t
          exact t.mono fun e w' ⟨A, c, e1, e2, e3, e4, e6, e5⟩ => by
            rw [HCE] at e1 e2 e3
            exact ⟨A, c, e1, e2, e3, e4, e6, e5⟩)
        obtain ⟨nc, hnc⟩ : ∃ nc, (critN f).length = nc := ⟨_, rfl⟩
        have HNC := hide hnc
        rw [hnc] at HDE
        clear hnc HCE
        clear hown hq
        go_wp2_with (go_at_call 16; refine HDE.out.mono ?_; rintro e w9 ⟨A9, c9, rfl, hs9, hc9, hm9, ha9, hb9⟩; have HA9 := hide ha9; have HS9 := hide hs9; have HC9 := hide hc9; have HB9 := hide hb9; clear hs9 hc9 hb9 ha9)
        go_ret
        exact ⟨A9, c9, by rw [HNC.out]; rfl, HS9.out, by rw [HNC.out]; exact HC9.out, hm9, fun b o hb => Nat.le_trans w1s (HA9.out b o hb), (HB1.out.trans ((HC2.out.trans (HB.out.mono w2s)).mono w1s)).trans (HB9.out.mono w1s)⟩
      have HLT := hide hlt
      obtain ⟨e0, he0⟩ : ∃ e, es[k]? = some e := ⟨_, List.getElem?_eq_getElem (by have := HN.out; omega)⟩
      obtain ⟨a, b, rfl, ha, hb⟩ := HMEM.out e0 (List.mem_of_getElem? he0)
      obtain ⟨be, oe, rfl, hbe, hce⟩ := HS2.out (by have := HN.out; omega)
      obtain ⟨y1, y2⟩ := hce k _ he0
      have d1 := (HB.out.cell (p := ⟨be, oe + k * 2, none⟩) hbe).trans y1
      have d2 := (HB.out.cell (p := ⟨be, oe + k * 2 + 1, none⟩) hbe).trans y2
      simp only at d1 d2
      have hbs : be < wo.heap.size := by omega
      have hk0 : (0 : Int) ≤ (k : Int) := by omega
      have hk1 : (k : Int) < (n : Int) := by omega
      have HSF := hide (fun x => ecF_step (a := x) he0)
      have HST := hide (fun x => ecT_step (a := x) he0)
      clear hce y1 y2 he0
      go_upto_region 6 with (fail)
      obtain ⟨w4, hw4⟩ : ∃ w4, w4 = wo.alloc (.cells #[.int .i64 (a : Int), .int .i64 (b : Int)] 46) := ⟨_, rfl⟩
      obtain ⟨h7, hh7⟩ : ∃ h7, wo.heap.size = h7 := ⟨_, rfl⟩
      have HX7 := hide (show Box w4 h7 #[.int .i64 (a : Int), .int .i64 (b : Int)] 46 by rw [hw4, ← hh7]; exact Box.new wo _ _)
      have HB4 := hide (show Below wo.heap.size wo w4 by rw [hw4]; exact alloc1 wo _)
      rw [← hw4, hh7]
      clear hw4
      have w4s := HB4.out.size
      have H44 := hide (H4.out.below HB4.out)
      have H64 := hide (H6.out.below HB4.out)
      have HF4 := hide (HF.out.below HB4.out)
      have HG4 := hide (HG.out.below HB4.out)
      have HBB4 := hide (HB.out.trans (HB4.out.mono lwo))
      have lgn : gn < h7 := by rw [← hh7]; exact Box.lt HF.out
      have lgp : gp < h7 := by rw [← hh7]; exact Box.lt HG.out
      have lh4 : h4 < h7 := by rw [← hh7]; exact Box.lt H4.out
      have lh6 : h6 < h7 := by rw [← hh7]; exact Box.lt H6.out
      clear hh7 d1 d2 hbs
      have l7 := HX7.out.lt
      have x0 := (HX7.out.cell 0 (v := .int .i64 (a : Int)) rfl).1
      have x1 := (HX7.out.cell 1 (v := .int .i64 (b : Int)) rfl).1
      have y4 := (H44.out.cell 0 (v := .slice (some ⟨gn, 0, none⟩) ls ls) rfl).1
      obtain ⟨q1, q2⟩ := HF4.out.cell ha
      obtain ⟨ca, hca⟩ : ∃ c, ecF es k a = c := ⟨_, rfl⟩
      obtain ⟨cb', hcb'⟩ : ∃ c, ecT es k b = c := ⟨_, rfl⟩
      have hca2 : ca ≤ 1000 := by rw [← hca]; have := ecF_le es k a; have := HN.out; omega
      have hcb2 : cb' ≤ 1000 := by rw [← hcb']; have := ecT_le es k b; have := HN.out; omega
      rw [hca] at q1
      have ha0 : (0 : Int) ≤ (a : Int) := by omega
      have ha1 : (a : Int) < (ls : Int) := by omega
      have hb0 : (0 : Int) ≤ (b : Int) := by omega
      have hb1 : (b : Int) < (ls : Int) := by omega
      have HI1 := hide (HF4.out.inc hca hca2 (G := ecF es (k + 1)) (fun x => by rw [HSF.out x]))
      go_upto_region 7 with (fail)
      obtain ⟨w6, hw6⟩ : ∃ w6, w6 = w4.setCell ⟨gn, a, none⟩ (.int .i64 ((ca : Int) + 1)) := ⟨_, rfl⟩
      have HF6 := hide (show CntM w6 gn ls (ecF es (k + 1)) by rw [hw6]; exact HI1.out)
      have HG6 := hide (show CntM w6 gp ls (ecT es k) by rw [hw6]; exact HG4.out.other (fun e => hne e.symm))
      have H46 := hide (show Box w6 h4 #[.slice (some ⟨gn, 0, none⟩) ls ls] 31 by rw [hw6]; exact H44.out.other hne1)
      have H66 := hide (show Box w6 h6 #[.slice (some ⟨gp, 0, none⟩) ls ls] 31 by rw [hw6]; exact H64.out.other hne3)
      have HX76 := hide (show Box w6 h7 #[.int .i64 (a : Int), .int .i64 (b : Int)] 46 by rw [hw6]; exact HX7.out.other (by omega))
      have HB6 := hide (show Below w2.heap.size w2 w6 by rw [hw6]; exact Below.setCell HBB4.out (by show _ ≤ gn; omega) _)
      have w6s : w6.heap.size = w4.heap.size := by rw [hw6, World.size_setCell]
      rw [← hw6]
      clear hw6 x0 x1 y4 q1 q2
      have l76 := HX76.out.lt
      have x1 := (HX76.out.cell 1 (v := .int .i64 (b : Int)) rfl).1
      have y6 := (H66.out.cell 0 (v := .slice (some ⟨gp, 0, none⟩) ls ls) rfl).1
      obtain ⟨q1, q2⟩ := HG6.out.cell hb
      rw [hcb'] at q1
      have HI2 := hide (HG6.out.inc hcb' hcb2 (G := ecT es (k + 1)) (fun x => by rw [HST.out x]))
      have lgp6 : gp < w6.heap.size := by omega
      have lh66 : h6 < w6.heap.size := by omega
      clear w6s
      go_wp2
      go_roundw
      case rel => exact ⟨k + 1, by have := HLT.out; omega, by go_num, hide (HF6.out.other hne), HI2, hide (H46.out.other hne2), hide (H66.out.other hne4), Below.setCell HB6.out (by show _ ≤ gp; omega) _⟩
      case measure => have := HLT.out; simp [intOf]; omega
end Go.Proofs.YtnoknodijombpaaDoor
