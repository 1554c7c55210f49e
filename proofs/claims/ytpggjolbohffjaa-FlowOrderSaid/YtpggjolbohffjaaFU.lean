/- The statement FlowBoth, walked: it answers true. Condition: no slice of the program is longer than any machine's memory. -/
import Derived.Test.YtpggjolbohffjaaFQ
set_option linter.unusedSimpArgs false
set_option linter.unusedVariables false
namespace Go.Proofs.Ytpggjolbohffjaa
open Go.RowKit

theorem mem_edgesN {f : FunV} {a : Nat} {v : Int} (ha : a < f.blocks.length) : ((a : Int), v) ∈ edgesN f ↔ v ∈ nxt f a := by
  unfold edgesN edgesTo
  simp only [List.mem_flatMap, List.mem_map, List.mem_range, Prod.mk.injEq]
  constructor
  · rintro ⟨i, -, u, hu, h1, rfl⟩
    have : i = a := by omega
    subst this
    exact hu
  · intro h
    exact ⟨a, ha, v, h, rfl, rfl⟩
theorem mem_prevN {f : FunV} {a : Nat} {z : Int} (ha : a < f.blocks.length) : (a : Int) ∈ prevN f z ↔ z ∈ nxt f a := by
  rw [← mem_edgesN ha]
  unfold prevN
  simp only [List.mem_map, List.mem_filter, beq_iff_eq]
  constructor
  · rintro ⟨⟨x, y⟩, ⟨h1, rfl⟩, rfl⟩
    exact h1
  · intro h
    exact ⟨_, ⟨h, rfl⟩, rfl⟩
section
variable {α : Type} {l : List α} {z y : α} {k : Nat}
theorem take_zero_iff : (false = true ↔ z ∈ l.take 0) := by simp
theorem take_yes (h : true = true ↔ z ∈ l.take k) : (true = true ↔ z ∈ l.take (k + 1)) := by
  have := h.1 rfl
  simp only [true_iff]
  rw [List.take_add_one]
  exact List.mem_append_left _ this
theorem take_hit (hy : l[k]? = some y) (hz : y = z) : (true = true ↔ z ∈ l.take (k + 1)) := by
  simp only [true_iff]
  rw [List.take_add_one, hy, hz]
  simp
theorem take_no (h : false = true ↔ z ∈ l.take k) (hy : l[k]? = some y) (hz : ¬ y = z) : (false = true ↔ z ∈ l.take (k + 1)) := by
  have hn : z ∉ l.take k := fun hm => by have := h.2 hm; cases this
  simp only [Bool.false_eq_true, false_iff]
  rw [List.take_add_one, hy]
  intro hm
  rcases List.mem_append.1 hm with h1 | h1
  · exact hn h1
  · simp at h1; exact hz h1.symm
theorem take_end {b R : Bool} (h : b = true ↔ z ∈ l.take k) (hk : l.length ≤ k) (hR : R = true ↔ z ∈ l) : b = R := by
  rw [List.take_of_length_le hk] at h
  rw [Bool.eq_iff_iff, h, hR]
end
set_option maxHeartbeats 4000000 in
set_option maxRecDepth 100000 in
theorem both5_law (vp : Value) (p : List FunV) (an bn : Nat) (ha : an < 256) (hb : bn < 256) (w : World) (hp : FunsV w (· < w.heap.size) vp p) (hsz : progSize p) :
    Calls Try.prog 6 #[.agg #[vp], .agg #[.int .u8 (an : Int), .int .u8 (bn : Int)]] w fun e w' => e = .returned (.bool true) ∧ Below w.heap.size w w' := by
  have HKP := hide (fun (W : World) (hW : Below w.heap.size w W) => hp.keep (up hW (Nat.le_refl _)) (fun _ h => h))
  have HOUT := hide (fun (W : World) (hW : Below w.heap.size w W) => out5_any vp p W w.heap.size hW.size (hp.keep (up hW (Nat.le_refl _)) (fun _ h => h)) hsz)
  have HALLOK := hide (fun h => @flowOk_of p h)
  obtain ⟨A, c, rfl, hpc, hpm⟩ := hp.open'
  obtain ⟨lp, hlp⟩ : ∃ lp, p.length = lp := ⟨_, rfl⟩
  have HLP := hide hlp
  rw [hlp] at HKP HOUT hpc ⊢
  clear hp hsz hlp
  go_enter Try.func6, Try.ntmps6
  go_upto_region 1 with (fail)
  obtain ⟨w0, hw0⟩ : ∃ w0, w0 = (w.alloc (.cells #[.slice A lp c] 24)).alloc (.cells #[.int .u8 (an : Int), .int .u8 (bn : Int)] 43) := ⟨_, rfl⟩
  obtain ⟨h2, hh2⟩ : ∃ h2, w.heap.size + 1 = h2 := ⟨_, rfl⟩
  have HX0 := hide (show Box w0 w.heap.size #[.slice A lp c] 24 by rw [hw0]; exact (Box.new w _ _).alloc _)
  have HY0 := hide (show Box w0 h2 #[.int .u8 (an : Int), .int .u8 (bn : Int)] 43 by
    have h := Box.new (w.alloc (.cells #[.slice A lp c] 24)) #[.int .u8 (an : Int), .int .u8 (bn : Int)] 43
    rw [World.size_alloc, hh2] at h
    rw [hw0]; exact h)
  have HB0 := hide (show Below w.heap.size w w0 by rw [hw0]; exact alloc2 w _ _)
  rw [← hw0, hh2]
  clear hw0 hh2
  go_upto_region 3 with (go_at_call 8; refine (alive5_any w0).mono ?_; rintro e w1 ⟨rfl, hb1⟩; have HX1 := hide (HX0.out.below hb1); have HY1 := hide (HY0.out.below hb1); have HC1 := hide (HB0.out.trans (hb1.mono HB0.out.size)); clear hb1)
  have x1 := (HX1.out.cell 0 (v := .slice A lp c) rfl).1
  have l1 := HX1.out.lt
  go_upto_region 5 with (go_at_call 9; refine (HOUT.out w1 HC1.out).mono ?_; rintro e w2 ⟨b1, rfl, hs2, hb2⟩; have HB2 := hide (HC1.out.trans (hb2.mono HC1.out.size)); have HX2 := hide (HX1.out.below hb2); have HY2 := hide (HY1.out.below hb2); have HS2 := hide hs2; clear x1 hb2 hs2)
  all_goals try (go_ret; exact ⟨rfl, HB2.out⟩)
  have hb1f : b1 = false := by assumption
  subst hb1f
  have HOKS := hide (HALLOK.out (HS2.out.out rfl))
  clear HOUT HALLOK HS2 HC1 HX1 HY1 l1
  go_wp2
  go_loopw [5] (fun i wr => ∃ k : Nat, k ≤ lp ∧ i = .int .i64 k ∧ Below w2.heap.size w2 wr) (fun i _ => lp - (intOf i).toNat)
  case atStart => exact ⟨0, Nat.zero_le _, rfl, Below.refl _ _⟩
  case round =>
    obtain ⟨k, hk, rfl, hb'⟩ := hrel
    obtain ⟨wo, rfl⟩ : ∃ wo, wo = wr := ⟨_, rfl⟩
    have hszo := hb'.size
    have HBEL := hide (HB2.out.trans (hb'.mono HB2.out.size))
    have HXO := hide (HX2.out.below hb')
    have HYO := hide (HY2.out.below hb')
    have HBW := hide hb'
    have xp := (HXO.out.cell 0 (v := .slice A lp c) rfl).1
    have lxp := HXO.out.lt
    clear hb'
    by_cases hlt : k < lp
    case neg =>
      go_wp2
      go_ret
      exact ⟨rfl, HBEL.out⟩
    obtain ⟨f, hf⟩ : ∃ f, p[k]? = some f := ⟨_, List.getElem?_eq_getElem (by have := HLP.out; omega)⟩
    obtain ⟨b, o, Ak, ck, Ab, cb, As, cs, hA, hbb, ⟨e0, e1, e2, e3, e4⟩, hi⟩ := (HKP.out wo HBEL.out).get hf
    subst hA
    have hbs : b < wo.heap.size := by have := HBEL.out.size; omega
    obtain ⟨hok, hls1⟩ := HOKS.out f (List.mem_of_getElem? hf)
    have kI := fun (W : World) (hW : Below wo.heap.size wo W) => hi.keep (w := wo) (S := (· < w.heap.size)) (up hW HBEL.out.size) (fun _ h => h)
    obtain ⟨ra, hra⟩ : ∃ ra, an % f.blocks.length = ra := ⟨_, rfl⟩
    obtain ⟨rb, hrb⟩ : ∃ rb, bn % f.blocks.length = rb := ⟨_, rfl⟩
    have hral : ra < f.blocks.length := by rw [← hra]; exact Nat.mod_lt _ (by omega)
    have hrbl : rb < f.blocks.length := by rw [← hrb]; exact Nat.mod_lt _ (by omega)
    have HNX := hide (fun (W : World) (hW : Below wo.heap.size wo W) => (show Calls Try.prog 11 #[.agg #[.slice Ak f.kinds.length ck, .slice Ab f.base.length cb, .int .i64 f.params, .int .i64 f.result, .slice As f.blocks.length cs], .int .i64 (ra : Int)] W fun e w' => ∃ A c', e = .returned (.slice A (nxt f ra).length c') ∧ Sl w' w'.heap.size .i64 A (nxt f ra) ∧ (nxt f ra).length ≤ c' ∧ c' ≤ 2 ∧ (∀ b o, A = some ⟨b, o, none⟩ → W.heap.size ≤ b) ∧ Below W.heap.size W w' by
      have h := fnextN_any _ _ _ f (ra : Int) W w.heap.size (by have := hW.size; have := HBEL.out.size; omega) (kI W hW) hok
      rw [nxtI_nat hral] at h
      exact h))
    have HPX := hide (fun (W : World) (hW : Below wo.heap.size wo W) => fprev_any _ _ _ f (rb : Int) W w.heap.size (by have := hW.size; have := HBEL.out.size; omega) (kI W hW) hok)
    have HEX := hide (fun (W : World) (hW : Below wo.heap.size wo W) => fedges_any _ _ _ f W w.heap.size (by have := hW.size; have := HBEL.out.size; omega) (kI W hW) hok)
    have hel := edgesN_len hok
    have hpl : (prevN f (rb : Int)).length ≤ 80 := by
      have : (prevN f (rb : Int)).length ≤ (edgesN f).length := by unfold prevN; rw [List.length_map]; exact List.length_filter_le _ _
      omega
    have hnl := nxt_len f ra
    have HRN := hide (show decide ((rb : Int) ∈ nxt f ra) = true ↔ (rb : Int) ∈ nxt f ra from decide_eq_true_iff)
    have HRP := hide (show decide ((rb : Int) ∈ nxt f ra) = true ↔ (ra : Int) ∈ prevN f (rb : Int) from decide_eq_true_iff.trans (mem_prevN hral).symm)
    have HRE := hide (show decide ((rb : Int) ∈ nxt f ra) = true ↔ ((ra : Int), (rb : Int)) ∈ edgesN f from decide_eq_true_iff.trans (mem_edgesN hral).symm)
    generalize decide ((rb : Int) ∈ nxt f ra) = R at *
    generalize prevN f (rb : Int) = pn at *
    generalize edgesN f = en at *
    generalize nxt f ra = nx at *
    have hls40 := hok.1
    obtain ⟨ls, hls⟩ : ∃ ls, f.blocks.length = ls := ⟨_, rfl⟩
    rw [hls] at hra hrb hral hrbl hls1 hls40 e4 HNX HPX HEX
    have t1 : (an : Int).tmod (ls : Int) = (ra : Int) := by rw [← hra]; exact (Int.ofNat_tmod an ls).symm
    have t2 : (bn : Int).tmod (ls : Int) = (rb : Int) := by rw [← hrb]; exact (Int.ofNat_tmod bn ls).symm
    have t3 : (an : Int) % (ls : Int) = (ra : Int) := by rw [← hra]; exact (Int.natCast_emod an ls).symm
    have t4 : (bn : Int) % (ls : Int) = (rb : Int) := by rw [← hrb]; exact (Int.natCast_emod bn ls).symm
    have t5 : ((ls : Int) == 0) = false := by simp; omega
    obtain ⟨n6, hn6⟩ : ∃ n, nx.length = n := ⟨_, rfl⟩
    obtain ⟨n7, hn7⟩ : ∃ n, pn.length = n := ⟨_, rfl⟩
    obtain ⟨n8, hn8⟩ : ∃ n, en.length = n := ⟨_, rfl⟩
    rw [hn6] at HNX hnl
    rw [hn7] at hpl
    rw [hn8] at hel
    have HN6 := hide hn6; have HN7 := hide hn7; have HN8 := hide hn8
    generalize f.kinds.length = lk, f.base.length = lb, f.params = fp, f.result = fr at *
    have hki : (0 : Int) ≤ (k : Int) := by omega
    have hkl : (k : Int) < (lp : Int) := by omega
    have T1 := hide t1; have T2 := hide t2; have T3 := hide t3; have T4 := hide t4; have T5 := hide t5
    clear hi hf kI hok hra hrb hls hn6 hn7 hn8 t1 t2 t3 t4 t5
    go_upto_region 9 with (fail)
    obtain ⟨w5, hw5⟩ : ∃ w5, w5 = wo.alloc (.cells #[.slice Ak lk ck, .slice Ab lb cb, .int .i64 fp, .int .i64 fr, .slice As ls cs] 30) := ⟨_, rfl⟩
    obtain ⟨h5, hh5⟩ : ∃ h5, wo.heap.size = h5 := ⟨_, rfl⟩
    have HX5 := hide (show Box w5 h5 #[.slice Ak lk ck, .slice Ab lb cb, .int .i64 fp, .int .i64 fr, .slice As ls cs] 30 by rw [hw5, ← hh5]; exact Box.new wo _ _)
    have HY5 := hide (show Box w5 h2 #[.int .u8 (an : Int), .int .u8 (bn : Int)] 43 by rw [hw5]; exact HYO.out.alloc _)
    have HB5 := hide (show Below wo.heap.size wo w5 by rw [hw5]; exact alloc1 wo _)
    rw [← hw5, hh5]
    clear hw5 hh5 e0 e1 e2 e3 e4 hbs xp lxp
    have hz5 := HB5.out.size
    have l5 := HX5.out.lt
    have ly5 := HY5.out.lt
    have c4 := (HX5.out.cell 4 (v := .slice As ls cs) rfl).1
    have d0 := (HY5.out.cell 0 (v := .int .u8 (an : Int)) rfl).1
    have d1 := (HY5.out.cell 1 (v := .int .u8 (bn : Int)) rfl).1
    have t1 := T1.out; have t2 := T2.out; have t3 := T3.out; have t4 := T4.out; have t5 := T5.out
    have ea : IntKind.i64.wrap (an : Int) = (an : Int) := IntWalk.i64_in _ ⟨by omega, by omega⟩
    have eb : IntKind.i64.wrap (bn : Int) = (bn : Int) := IntWalk.i64_in _ ⟨by omega, by omega⟩
    go_quiet (fail)
    obtain ⟨w6, hw6⟩ : ∃ w6, w6 = w5.drewN nq := ⟨_, rfl⟩
    have HX6 := hide (show Box w6 h5 #[.slice Ak lk ck, .slice Ab lb cb, .int .i64 fp, .int .i64 fr, .slice As ls cs] 30 by rw [hw6]; exact HX5.out)
    have HB6 := hide (show Below wo.heap.size wo w6 by rw [hw6]; exact below_drewN HB5.out nq)
    have hs6 : w6.heap.size = w5.heap.size := by rw [hw6]; rfl
    rw [← hw6]
    clear hw6 c4 d0 d1 t1 t2 t3 t4 t5 ea eb
    have l6 : h5 < w6.heap.size := by omega
    have c0 := (HX6.out.cell 0 (v := .slice Ak lk ck) rfl).1
    have c1 := (HX6.out.cell 1 (v := .slice Ab lb cb) rfl).1
    have c2 := (HX6.out.cell 2 (v := .int .i64 fp) rfl).1
    have c3 := (HX6.out.cell 3 (v := .int .i64 fr) rfl).1
    have c4 := (HX6.out.cell 4 (v := .slice As ls cs) rfl).1
    have HK5 := hide (fun (W : World) (hW : Below w6.heap.size w6 W) => And.intro ((HX6.out.below hW).cell 0 (v := .slice Ak lk ck) rfl).1 (And.intro ((HX6.out.below hW).cell 1 (v := .slice Ab lb cb) rfl).1 (And.intro ((HX6.out.below hW).cell 2 (v := .int .i64 fp) rfl).1 (And.intro ((HX6.out.below hW).cell 3 (v := .int .i64 fr) rfl).1 ((HX6.out.below hW).cell 4 (v := .slice As ls cs) rfl).1))))
    have HUP := hide (fun (W : World) (hW : Below w6.heap.size w6 W) => HB6.out.trans (hW.mono HB6.out.size))
    clear hs6 l5
    go_wp2_with fail
    go_region_held3 (fun w' => w'.cell? ⟨h5, 0, none⟩ = some (.slice Ak lk ck) ∧ w'.cell? ⟨h5, 1, none⟩ = some (.slice Ab lb cb) ∧ w'.cell? ⟨h5, 2, none⟩ = some (.int .i64 fp) ∧ w'.cell? ⟨h5, 3, none⟩ = some (.int .i64 fr) ∧ w'.cell? ⟨h5, 4, none⟩ = some (.slice As ls cs)) (first | go_keep | (exact q9) | (exact q8) | (exact q7))
      (first
        | (go_at_call 16; refine (HEX.out w8 (HUP.out w8 HC8.out)).mono ?_; rintro e w9 ⟨v9, rfl, ho9, hb9⟩; obtain ⟨A9, k9, hv9, hle9, hme9, hs9⟩ := ho9.sl; rw [HN8.out] at hv9; subst hv9; have hc9 := HC8.out.trans (hb9.mono HC8.out.size); have q9 := HK5.out w9 hc9; have HS9 := hide hs9; have HS8' := hide ((HS8.out.below hb9).more hb9.size); have HS7'' := hide ((HS7'.out.below hb9).more hb9.size); have HC9 := hide hc9; clear hb9 hc9 ho9 hs9)
        | (go_at_call 13; refine (HPX.out w7 (HUP.out w7 HC7.out)).mono ?_; rintro e w8 ⟨v8, rfl, ho8, hb8⟩; obtain ⟨A8, k8, hv8, hle8, hme8, hs8⟩ := ho8.sl; rw [HN7.out] at hv8; subst hv8; have hc8 := HC7.out.trans (hb8.mono HC7.out.size); have q8 := HK5.out w8 hc8; have HS8 := hide hs8; have HS7' := hide ((HS7.out.below hb8).more hb8.size); have HC8 := hide hc8; clear hb8 hc8 ho8 hs8)
        | (go_at_call 11; refine (HNX.out _ (HUP.out _ (below_drewN (Below.refl _ _) 1))).mono ?_; rintro e w7 ⟨A7, k7, rfl, hs7, hl7, hm7, -, hb7⟩; have hc7 : Below w6.heap.size w6 w7 := ⟨hb7.os, hb7.tape, hb7.output, hb7.size, hb7.block⟩; have q7 := HK5.out w7 hc7; have HS7 := hide hs7; have HC7 := hide hc7; clear hb7 hc7 hs7))
    all_goals
      have HEND := hide (HBW.out.trans ((HUP.out w9 HC9.out).mono hszo))
      rw [HN7.out] at hle8
      rw [HN8.out] at hle9
      clear q7 q8 q9 c0 c1 c2 c3 c4
      go_wp2
      go_loop [12, 15] (fun x i => ∃ (xb : Bool) (j : Nat), x = .bool xb ∧ j ≤ n6 ∧ i = .int .i64 j ∧ Hid (xb = true ↔ (rb : Int) ∈ nx.take j)) (fun _ i => n6 - (intOf i).toNat)
      case atStart => exact ⟨false, 0, rfl, Nat.zero_le _, rfl, hide take_zero_iff⟩
      case round =>
        obtain ⟨xb, j, rfl, hj, rfl, hx⟩ := hrel
        by_cases hlj : j < n6
        · obtain ⟨y, hy⟩ : ∃ y, nx[j]? = some y := ⟨_, List.getElem?_eq_getElem (by have := HN6.out; omega)⟩
          obtain ⟨b7, o7, rfl, hb7, hc7⟩ := HS7''.out (by have := HN6.out; omega)
          have cj := hc7 j (by have := HN6.out; omega)
          rw [List.getD_eq_getElem?_getD, hy] at cj
          simp only [Option.getD_some] at cj
          have HY := hide hy
          clear hc7 hy
          cases xb with
          | true =>
            have HT := hide (take_yes hx.out)
            clear hx
            go_wp2
            go_round
            case rel => exact ⟨true, j + 1, rfl, by omega, by go_num, HT⟩
            case measure => simp [intOf]; omega
          | false =>
            by_cases he : y = (rb : Int)
            · have hq : (y == (rb : Int)) = true := by simpa using he
              have HT := hide (take_hit HY.out he)
              clear he hx
              go_wp2
              go_round
              case rel => exact ⟨true, j + 1, rfl, by omega, by go_num, HT⟩
              case measure => simp [intOf]; omega
            · have hq : (y == (rb : Int)) = false := by simpa using he
              have HT := hide (take_no hx.out HY.out he)
              clear he hx
              go_wp2
              go_round
              case rel => exact ⟨false, j + 1, rfl, by omega, by go_num, HT⟩
              case measure => simp [intOf]; omega
        have hxr : xb = R := take_end hx.out (by have := HN6.out; omega) HRN.out
        subst hxr
        clear hx
        go_wp2
        go_loop [13, 16] (fun x i => ∃ (yb : Bool) (j : Nat), x = .bool yb ∧ j ≤ n7 ∧ i = .int .i64 j ∧ Hid (yb = true ↔ (ra : Int) ∈ pn.take j)) (fun _ i => n7 - (intOf i).toNat)
        case atStart => exact ⟨false, 0, rfl, Nat.zero_le _, rfl, hide take_zero_iff⟩
        case round =>
          obtain ⟨yb, j', rfl, hj', rfl, hx⟩ := hrel
          by_cases hlj' : j' < n7
          · obtain ⟨y, hy⟩ : ∃ y, pn[j']? = some y := ⟨_, List.getElem?_eq_getElem (by have := HN7.out; omega)⟩
            obtain ⟨b8, o8, rfl, hb8, hc8⟩ := HS8'.out (by have := HN7.out; omega)
            have cj := hc8 j' (by have := HN7.out; omega)
            rw [List.getD_eq_getElem?_getD, hy] at cj
            simp only [Option.getD_some] at cj
            have HY := hide hy
            clear hc8 hy
            cases yb with
            | true =>
              have HT := hide (take_yes hx.out)
              clear hx
              go_wp2
              go_round
              case rel => exact ⟨true, j' + 1, rfl, by omega, by go_num, HT⟩
              case measure => simp [intOf]; omega
            | false =>
              by_cases he : y = (ra : Int)
              · have hq : (y == (ra : Int)) = true := by simpa using he
                have HT := hide (take_hit HY.out he)
                clear he hx
                go_wp2
                go_round
                case rel => exact ⟨true, j' + 1, rfl, by omega, by go_num, HT⟩
                case measure => simp [intOf]; omega
              · have hq : (y == (ra : Int)) = false := by simpa using he
                have HT := hide (take_no hx.out HY.out he)
                clear he hx
                go_wp2
                go_round
                case rel => exact ⟨false, j' + 1, rfl, by omega, by go_num, HT⟩
                case measure => simp [intOf]; omega
          have hyr : yb = xb := take_end hx.out (by have := HN7.out; omega) HRP.out
          subst hyr
          clear hx
          go_wp2
          go_loop [14, 17] (fun x i => ∃ (zb : Bool) (j : Nat), x = .bool zb ∧ j ≤ n8 ∧ i = .int .i64 j ∧ Hid (zb = true ↔ ((ra : Int), (rb : Int)) ∈ en.take j)) (fun _ i => n8 - (intOf i).toNat)
          case atStart => exact ⟨false, 0, rfl, Nat.zero_le _, rfl, hide take_zero_iff⟩
          case round =>
            obtain ⟨zb, j'', rfl, hj'', rfl, hx⟩ := hrel
            by_cases hlj'' : j'' < n8
            · obtain ⟨y, hy⟩ : ∃ y, en[j'']? = some y := ⟨_, List.getElem?_eq_getElem (by have := HN8.out; omega)⟩
              obtain ⟨b9, o9, rfl, hb9, hc9⟩ := HS9.out (by have := HN8.out; omega)
              obtain ⟨cj1, cj2⟩ := hc9 j'' y hy
              have HY := hide hy
              obtain ⟨ya, yb'⟩ := y
              simp only at cj1 cj2
              clear hc9 hy
              cases zb with
              | true =>
                have HT := hide (take_yes hx.out)
                clear hx
                go_wp2
                go_round
                case rel => exact ⟨true, j'' + 1, rfl, by omega, by go_num, HT⟩
                case measure => simp [intOf]; omega
              | false =>
                by_cases he1 : ya = (ra : Int)
                · by_cases he2 : yb' = (rb : Int)
                  · have HT := hide (take_hit HY.out (show (ya, yb') = ((ra : Int), (rb : Int)) by rw [he1, he2]))
                    have hq1 : (ya == (ra : Int)) = true := by simpa using he1
                    have hq2 : (yb' == (rb : Int)) = true := by simpa using he2
                    subst he1
                    subst he2
                    clear hx
                    go_wp2
                    go_round
                    case rel => exact ⟨true, j'' + 1, rfl, by omega, by go_num, HT⟩
                    case measure => simp [intOf]; omega
                  · have HT := hide (take_no hx.out HY.out (show ¬ (ya, yb') = ((ra : Int), (rb : Int)) by intro h; injection h with h1 h2; exact he2 h2))
                    have hq1 : (ya == (ra : Int)) = true := by simpa using he1
                    have hq2 : (yb' == (rb : Int)) = false := by simpa using he2
                    clear hx
                    go_wp2
                    go_round
                    case rel => exact ⟨false, j'' + 1, rfl, by omega, by go_num, HT⟩
                    case measure => simp [intOf]; omega
                · have HT := hide (take_no hx.out HY.out (show ¬ (ya, yb') = ((ra : Int), (rb : Int)) by intro h; injection h with h1 h2; exact he1 h1))
                  have hq1 : (ya == (ra : Int)) = false := by simpa using he1
                  clear hx
                  go_wp2
                  go_round
                  case rel => exact ⟨false, j'' + 1, rfl, by omega, by go_num, HT⟩
                  case measure => simp [intOf]; omega
            have hzr : zb = yb := take_end hx.out (by have := HN8.out; omega) HRE.out
            subst hzr
            clear hx
            cases zb
            all_goals
              go_wp2
              go_roundw
              case rel => exact ⟨k + 1, by omega, by go_num, HEND.out⟩
              case measure => simp [intOf]; omega
end Go.Proofs.Ytpggjolbohffjaa
