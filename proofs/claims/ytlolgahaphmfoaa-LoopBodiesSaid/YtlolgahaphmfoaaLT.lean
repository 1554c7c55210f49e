/- Layer 7: Body and Deep of the reference. Condition: the function is one of a program that may be. -/
import Derived.Test.YtlolgahaphmfoaaLS
import Derived.Test.YtlolgahaphmfoaaLB
import Derived.Deep.RegionWith
set_option linter.unusedSimpArgs false
set_option linter.unusedVariables false
namespace Go.Proofs.Ytlolgahaphmfoaa
open Go.RowKit

theorem within_rz {f : FunV} {z : Int} {a : Nat} {m : List Bool} (haz : (a : Int) ≠ z) (hg : WGZ f z a m) (hc : CloZ f z m) (x : Nat) : metB m (x : Int) = true ↔ Rz f z a (x : Int) :=
  ⟨fun hm => ⟨haz, fun P hP hs => hg.snd P hP hs x hm⟩, fun h => h.2 (fun y => metB m y = true) hg.met (fun k hk v hv hvz => hc k hk v hv hvz)⟩
def selQ (q : Nat → Bool) (k : Nat) : List Int := ((List.range k).filter q).map (fun b : Nat => (b : Int))
theorem selQ_step (q : Nat → Bool) (k : Nat) : selQ q (k + 1) = if q k = true then selQ q k ++ [(k : Int)] else selQ q k := by
  unfold selQ
  rw [List.range_succ, List.filter_append, List.map_append]
  split <;> rename_i h <;> simp [h]
theorem selQ_len (q : Nat → Bool) (k : Nat) : (selQ q k).length ≤ k := by
  unfold selQ
  rw [List.length_map]
  exact Nat.le_trans (List.length_filter_le _ _) (by simp)
theorem selQ_body {f : FunV} {es : List (Int × Int)} {h : Int} {q : Nat → Bool} (hq : ∀ b, q b = true ↔ LoopP f es h b) : IsBody f es h (selQ q f.blocks.length) := by
  refine ⟨asc_range _ _, fun y => ?_⟩
  unfold selQ
  simp only [List.mem_map, List.mem_filter, List.mem_range]
  constructor
  · rintro ⟨b, ⟨h1, h2⟩, rfl⟩; exact ⟨b, rfl, h1, (hq b).1 h2⟩
  · rintro ⟨b, rfl, h1, h2⟩; exact ⟨b, ⟨h1, (hq b).2 h2⟩, rfl⟩
def LpTo (f : FunV) (es : List (Int × Int)) (h : Int) (b k : Nat) : Prop := ∃ u : Int, (u, h) ∈ es.take k ∧ ((b : Int) = h ∨ (Rch f b ∧ Rz f h b u))
theorem LpTo.zero (f : FunV) (es : List (Int × Int)) (h : Int) (b : Nat) : ¬ LpTo f es h b 0 := by rintro ⟨u, hu, -⟩; simp at hu
theorem LpTo.all {f : FunV} {es : List (Int × Int)} {h : Int} {b k : Nat} (hk : es.length ≤ k) : LpTo f es h b k ↔ LoopP f es h b := by unfold LpTo LoopP; rw [List.take_of_length_le hk]
theorem LpTo.step {f : FunV} {es : List (Int × Int)} {h : Int} {b k : Nat} {x y : Int} (he : es[k]? = some (x, y)) : LpTo f es h b (k + 1) ↔ LpTo f es h b k ∨ (y = h ∧ ((b : Int) = h ∨ (Rch f b ∧ Rz f h b x))) := by
  unfold LpTo
  rw [take_snocE he]
  constructor
  · rintro ⟨u, hu, hl⟩
    rcases List.mem_append.1 hu with h1 | h1
    · exact .inl ⟨u, h1, hl⟩
    · simp at h1
      obtain ⟨rfl, rfl⟩ := h1
      exact .inr ⟨rfl, hl⟩
  · rintro (⟨u, hu, hl⟩ | ⟨rfl, hl⟩)
    · exact ⟨u, List.mem_append_left _ hu, hl⟩
    · exact ⟨x, by simp, hl⟩
set_option maxHeartbeats 4000000 in
set_option maxRecDepth 100000 in
theorem rbody_any (vk vb vs : Value) (f : FunV) (o : List Int) (ho : OrderOf f o) (A : List Int) (hAf : AbvOf f A) (p : Int → Int → Bool) (hp : ∀ a b, p a b = true ↔ domQ A a b) (h : Int) (BL : List Int) (hBL : IsBody f (backN f o p) h BL) (w : World) (B : Nat) (hB : B ≤ w.heap.size) (hi : FunI w (· < B) vk vb vs f) (hok : FlowOk f) (h1 : 1 ≤ f.blocks.length) :
    Calls Try.prog 21 #[.agg #[vk, vb, .int .i64 f.params, .int .i64 f.result, vs], .int .i64 h] w fun e w' => ∃ v, e = .returned v ∧ Ow w' w.heap.size 3 .i64 v BL ∧ Below w.heap.size w w' := by
  obtain ⟨q, hq⟩ : ∃ q : Nat → Bool, ∀ b, q b = true ↔ LoopP f (backN f o p) h b := ⟨fun b => @decide (LoopP f (backN f o p) h b) (Classical.propDecidable _), fun b => by simp⟩
  have HBK := hide (fun (W : World) (hW : Below w.heap.size w W) => rback_any vk vb vs f o ho A hAf p hp W B (by have := hW.size; omega) (hi.keep (up hW hB) (fun _ h => h)) hok h1)
  have HW0 := hide (fun (W : World) (hW : Below w.heap.size w W) => (rwithinZ_any vk vb vs f (-1) 0 (by omega) W B (by have := hW.size; omega) (hi.keep (up hW hB) (fun _ h => h)) hok h1).mono (R' := fun e w' => ∃ bm m, e = .returned (.slice (some ⟨bm, 0, none⟩) f.blocks.length f.blocks.length) ∧ MB w' bm m ∧ m.length = f.blocks.length ∧ (∀ x : Nat, metB m (x : Int) = true ↔ Rch f x) ∧ Below W.heap.size W w') (fun e w' ⟨bm, m, h1', h2, h3, ⟨h4, h5⟩, h6⟩ => ⟨bm, m, h1', h3, h4.len, within_rch hok h1 ho h4 h5, h6⟩))
  have HWZ := hide (fun (W : World) (hW : Below w.heap.size w W) (b : Nat) (hb : b < f.blocks.length) (hbh : (b : Int) ≠ h) => (rwithinZ_any vk vb vs f h b hbh W B (by have := hW.size; omega) (hi.keep (up hW hB) (fun _ h => h)) hok hb).mono (R' := fun e w' => ∃ bm m, e = .returned (.slice (some ⟨bm, 0, none⟩) f.blocks.length f.blocks.length) ∧ MB w' bm m ∧ m.length = f.blocks.length ∧ (∀ x : Nat, metB m (x : Int) = true ↔ Rz f h b (x : Int)) ∧ Below W.heap.size W w') (fun e w' ⟨bm, m, h1', h2, h3, ⟨h4, h5⟩, h6⟩ => ⟨bm, m, h1', h3, h4.len, within_rz hbh h4 h5, h6⟩))
  have hel := back_len (o := o) (p := p) hok
  have HBE := hide (show selQ q f.blocks.length = BL from (selQ_body hq).one hBL)
  have HNAT := hide (fun (k : Nat) (e : Int × Int) (he : (backN f o p)[k]? = some e) => (show ∃ a b : Nat, e = ((a : Int), (b : Int)) ∧ a < f.blocks.length by
    obtain ⟨x, v⟩ := e
    obtain ⟨a, b, rfl, rfl, ha, -⟩ := back_nat hok (List.mem_of_getElem? he)
    exact ⟨a, b, rfl, ha⟩))
  have hls40 := hok.1
  obtain ⟨i0, hi0, iz0, iz1, iz2⟩ := info_parts info_i64
  have HI := hide hi0
  obtain ⟨Ak, ck, rfl, hck, hmk⟩ := hi.1.open'
  obtain ⟨Ab, cb, rfl, hcb, hmb⟩ := hi.2.1.open'
  obtain ⟨As, cs, rfl, hcs, hms⟩ := hi.2.2.1.open'
  obtain ⟨es, hes⟩ : ∃ es, backN f o p = es := ⟨_, rfl⟩
  rw [hes] at HBK hel HNAT hq
  have HQ := hide hq
  obtain ⟨n, hne⟩ : ∃ n, es.length = n := ⟨_, rfl⟩
  have HN := hide hne
  rw [hne] at hel
  generalize f.kinds.length = lk, f.base.length = lb, f.blocks.length = ls, f.params = fp, f.result = fr at *
  clear hi hok hes hne ho h1 hi0 hAf hp hBL hq
  go_enter Try.func21, Try.ntmps21
  go_upto_region 1 with (fail)
  obtain ⟨w1, hw1⟩ : ∃ w1, w1 = w.alloc (.cells #[.slice Ak lk ck, .slice Ab lb cb, .int .i64 fp, .int .i64 fr, .slice As ls cs] 30) := ⟨_, rfl⟩
  obtain ⟨h5, hh5⟩ : ∃ h5, w.heap.size = h5 := ⟨_, rfl⟩
  have HX1 := hide (show Box w1 h5 #[.slice Ak lk ck, .slice Ab lb cb, .int .i64 fp, .int .i64 fr, .slice As ls cs] 30 by rw [hw1, ← hh5]; exact Box.new w _ _)
  have HB1 := hide (show Below w.heap.size w w1 by rw [hw1]; exact alloc1 w _)
  have HK1 := hide (fun (W : World) (hW : Below w1.heap.size w1 W) => And.intro ((HX1.out.below hW).cell 0 (v := .slice Ak lk ck) rfl).1 (And.intro ((HX1.out.below hW).cell 1 (v := .slice Ab lb cb) rfl).1 (And.intro ((HX1.out.below hW).cell 2 (v := .int .i64 fp) rfl).1 (And.intro ((HX1.out.below hW).cell 3 (v := .int .i64 fr) rfl).1 ((HX1.out.below hW).cell 4 (v := .slice As ls cs) rfl).1))))
  have HUP := hide (fun (W : World) (hW : Below w1.heap.size w1 W) => HB1.out.trans (hW.mono HB1.out.size))
  have l1 := HX1.out.lt
  have hw1s := HB1.out.size
  rw [← hw1, hh5]
  clear hw1 hh5
  obtain ⟨c0, c1, c2, c3, c4⟩ := HK1.out w1 (Below.refl _ _)
  go_upto_region 2 with (go_at_call 14; refine (HBK.out w1 HB1.out).mono ?_; rintro e w3 ⟨v3, rfl, ho3, hb3⟩; obtain ⟨A3, k3, hv3, hle3, hme3, hs3⟩ := ho3.sl; rw [HN.out] at hv3 hle3; have HS3 := hide hs3; have HB3 := hide hb3; subst hv3; clear hb3 ho3 hs3)
  clear c0 c1 c2 c3 c4
  have hz3 := HB3.out.size
  obtain ⟨c0, c1, c2, c3, c4⟩ := HK1.out w3 HB3.out
  have l3 : h5 < w3.heap.size := by omega
  go_wp2_with (go_at_call 24; refine (HW0.out w3 (HUP.out w3 HB3.out)).mono ?_; rintro e w4 ⟨bm, m, rfl, hm, hml, hmr, hb4⟩; have HM4 := hide hm; have HML := hide hml; have HMR := hide hmr; have HB4 := hide (HB3.out.trans (hb4.mono hz3)); have HB34 := hide hb4; clear hm hml hmr hb4)
  clear c0 c1 c2 c3 c4 l3
  have hz4 := HB4.out.size
  go_loopw [7, 8] (fun l i wr => ∃ (v : Value) (k : Nat), v = l ∧ k ≤ ls ∧ i = .int .i64 k ∧ Below w4.heap.size w4 wr ∧ Hid (Ow wr w4.heap.size 3 .i64 v (selQ q k))) (fun _ i _ => ls - (intOf i).toNat)
  case atStart => exact ⟨_, 0, rfl, Nat.zero_le _, rfl, Below.refl _ _, hide (Ow.nil _ _ _ _)⟩
  case round =>
    obtain ⟨v, b, rfl, hk, rfl, hb', how⟩ := hrel
    obtain ⟨wo, rfl⟩ : ∃ wo, wo = wr := ⟨_, rfl⟩
    have hsz := hb'.size
    have HBW := hide hb'
    clear hb'
    have c4 := (HK1.out wo (HB4.out.trans (HBW.out.mono hz4))).2.2.2.2
    have lo : h5 < wo.heap.size := by omega
    by_cases hlt : b < ls
    case neg =>
      have HF := hide (HUP.out w4 HB4.out)
      have hbl : b = ls := by omega
      have HO := hide (show Ow wo w.heap.size 3 .i64 v BL by rw [← HBE.out, ← hbl]; exact how.out.lower HF.out.size)
      clear hbl
      go_wp2
      go_ret
      exact ⟨_, rfl, HO.out, HF.out.trans (HBW.out.mono HF.out.size)⟩
    have HSP := hide (selQ_step q b)
    have HLN := hide (show (selQ q b).length < 1099511627776 by have := selQ_len q b; omega)
    have HQB := hide (HQ.out b)
    go_wp2
    clear c4 lo
    go_loopw [9, 10] (fun x i wr => ∃ (r : Bool) (k : Nat), x = .bool r ∧ k ≤ n ∧ i = .int .i64 k ∧ Below wo.heap.size wo wr ∧ Hid (r = true ↔ LpTo f es h b k)) (fun _ i _ => n - (intOf i).toNat)
    case atStart => exact ⟨false, 0, rfl, Nat.zero_le _, rfl, Below.refl _ _, hide (by simp [LpTo.zero])⟩
    case round =>
      obtain ⟨r, k, rfl, hk2, rfl, hbq, hr⟩ := hrel
      obtain ⟨wq, rfl⟩ : ∃ wq, wq = wr := ⟨_, rfl⟩
      have hszq := hbq.size
      have HBQ := hide hbq
      have HB4Q := hide (HBW.out.trans (hbq.mono hsz))
      clear hbq
      by_cases hlk : k < n
      case neg =>
        have HR := hide (show r = true ↔ q b = true by rw [hr.out, LpTo.all (by have := HN.out; omega), HQB.out])
        have HOQ := hide (how.out.below HBQ.out)
        have hszn : w4.heap.size ≤ wq.heap.size := by omega
        cases r with
        | true =>
          have HST := hide (show selQ q b ++ [(b : Int)] = selQ q (b + 1) by rw [HSP.out, if_pos (HR.out.1 rfl)])
          go_wp2_with (at_builtin; refine wpList_append_one wq rfl (.tmp 69) (.tmp 71) _ rfl w4.heap.size 3 .i64 i0 _ 8 Try.underlying27 HI.out iz0 iz1 iz2 rfl (by omega) v (selQ q b) (by rfl) HOQ.out (b : Int) (by rfl) HLN.out hszn ?_; intro v5 w5 ho5 hb5)
          go_roundw
          case rel => exact ⟨v5, b + 1, rfl, by omega, by go_num, HB4Q.out.trans hb5, hide (by rw [← HST.out]; exact ho5)⟩
          case measure => simp [intOf]; omega
        | false =>
          have HST := hide (show selQ q b = selQ q (b + 1) by rw [HSP.out, if_neg (fun h => by have := HR.out.2 h; cases this)])
          go_wp2
          go_roundw
          case rel => exact ⟨v, b + 1, rfl, by omega, by go_num, HB4Q.out, hide (by rw [← HST.out]; exact HOQ.out)⟩
          case measure => simp [intOf]; omega
      obtain ⟨y, hy⟩ : ∃ y, es[k]? = some y := ⟨_, List.getElem?_eq_getElem (by have := HN.out; omega)⟩
      obtain ⟨ua, ub, hyab, hua⟩ := HNAT.out k y hy
      subst hyab
      obtain ⟨be, oe, rfl, hbe, hce'⟩ := HS3.out (by have := HN.out; omega)
      obtain ⟨y1, y2⟩ := hce' k _ hy
      simp only at y1 y2
      have HST := hide (LpTo.step (f := f) (h := h) (b := b) hy)
      have HB3Q := hide (show Below w3.heap.size w3 wq from HB34.out.trans (HB4Q.out.mono HB34.out.size))
      have hz3q := HB3Q.out.size
      have hbq2 : be < wq.heap.size := by omega
      have lq : h5 < wq.heap.size := by omega
      have HRB := hide (HMR.out b)
      obtain ⟨rb, hrb⟩ : ∃ rb, metB m (b : Int) = rb := ⟨_, rfl⟩
      rw [hrb] at HRB
      have hmb : wq.cell? ⟨bm, b, none⟩ = some (.bool rb) := by rw [← hrb]; exact (MB.cell (show MB wq bm m from Box.below HM4.out HB4Q.out) (b := b) (by rw [HML.out]; exact hlt)).1
      have lbm : bm < wq.heap.size := Box.lt (Box.below HM4.out HB4Q.out)
      have HK := hide (fun (W : World) (hW : Below wq.heap.size wq W) => And.intro (HK1.out W (HB3.out.trans ((HB3Q.out.trans (hW.mono hz3q)).mono hz3))) (And.intro ((hW.cell (p := ⟨be, oe + k * 2, none⟩) hbq2).trans ((HB3Q.out.cell (p := ⟨be, oe + k * 2, none⟩) hbe).trans y1)) (And.intro ((hW.cell (p := ⟨be, oe + k * 2 + 1, none⟩) hbq2).trans ((HB3Q.out.cell (p := ⟨be, oe + k * 2 + 1, none⟩) hbe).trans y2)) ((hW.cell (p := ⟨bm, b, none⟩) lbm).trans hmb))))
      obtain ⟨⟨c0, c1, c2, c3, c4⟩, d1, d2, d3⟩ := HK.out wq (Below.refl _ _)
      have b1 : (0 : Int) ≤ (b : Int) := by omega
      have b2 : (b : Int) < (ls : Int) := by omega
      have k1 : (0 : Int) ≤ (k : Int) := by omega
      have k2 : (k : Int) < (n : Int) := by omega
      have a1 : (0 : Int) ≤ (ua : Int) := by omega
      have a2 : (ua : Int) < (ls : Int) := by omega
      clear hce' y1 y2 hy hrb hmb
      cases r with
      | true =>
        have HN2 := hide (show (true = true) ↔ LpTo f es h b (k + 1) by rw [HST.out]; exact ⟨fun _ => .inl (hr.out.1 rfl), fun _ => rfl⟩)
        go_upto_region 11 with (fail)
        go_quiet (fail)
        go_wp2
        go_roundw
        case rel => exact ⟨true, k + 1, rfl, by omega, by go_num, below_drewN HBQ.out _, HN2⟩
        case measure => simp [intOf]; omega
      | false =>
        have HNO := hide (show ¬ LpTo f es h b k from fun h => by have := hr.out.2 h; cases this)
        by_cases he : (ub : Int) = h
        case neg =>
          have q1 : ((ub : Int) == h) = false := by simpa using he
          have HN2 := hide (show (false = true) ↔ LpTo f es h b (k + 1) by rw [HST.out]; exact ⟨fun e => (by cases e), fun e => e.elim (fun e => absurd e HNO.out) (fun e => absurd e.1 he)⟩)
          clear he
          go_upto_region 11 with (fail)
          go_quiet (fail)
          go_wp2
          go_roundw
          case rel => exact ⟨false, k + 1, rfl, by omega, by go_num, below_drewN HBQ.out _, HN2⟩
          case measure => simp [intOf]; omega
        have q1 : ((ub : Int) == h) = true := by simpa using he
        have HUB := hide he
        clear he
        by_cases hbh : (b : Int) = h
        · have q2 : ((b : Int) == h) = true := by simpa using hbh
          have HN2 := hide (show (true = true) ↔ LpTo f es h b (k + 1) by rw [HST.out]; exact ⟨fun _ => .inr ⟨HUB.out, .inl hbh⟩, fun _ => rfl⟩)
          clear hbh
          go_upto_region 11 with (fail)
          go_quiet (fail)
          go_wp2
          go_roundw
          case rel => exact ⟨true, k + 1, rfl, by omega, by go_num, below_drewN HBQ.out _, HN2⟩
          case measure => simp [intOf]; omega
        have q2 : ((b : Int) == h) = false := by simpa using hbh
        have HBH := hide hbh
        cases rb with
        | false =>
          have HN2 := hide (show (false = true) ↔ LpTo f es h b (k + 1) by
            rw [HST.out]
            refine ⟨fun e => (by cases e), fun e => ?_⟩
            rcases e with e | ⟨-, e | ⟨e, -⟩⟩
            · exact absurd e HNO.out
            · exact absurd e HBH.out
            · exact HRB.out.2 e)
          clear hbh
          go_upto_region 11 with (fail)
          go_quiet (fail)
          go_wp2
          go_roundw
          case rel => exact ⟨false, k + 1, rfl, by omega, by go_num, below_drewN HBQ.out _, HN2⟩
          case measure => simp [intOf]; omega
        | true =>
          have HWB := hide (fun (W : World) (hW : Below wq.heap.size wq W) => HWZ.out W (HUP.out W (HB3.out.trans ((HB3Q.out.trans (hW.mono hz3q)).mono hz3))) b hlt HBH.out)
          have HRCH := hide (HRB.out.1 rfl)
          clear hbh
          go_upto_region 11 with (fail)
          refine wp_region_held_drew (S := (fun w' => (w'.cell? ⟨h5, 0, none⟩ = some (.slice Ak lk ck) ∧ w'.cell? ⟨h5, 1, none⟩ = some (.slice Ab lb cb) ∧ w'.cell? ⟨h5, 2, none⟩ = some (.int .i64 fp) ∧ w'.cell? ⟨h5, 3, none⟩ = some (.int .i64 fr) ∧ w'.cell? ⟨h5, 4, none⟩ = some (.slice As ls cs)) ∧ w'.cell? ⟨be, oe + k * 2, none⟩ = some (.int .i64 (ua : Int)) ∧ w'.cell? ⟨be, oe + k * 2 + 1, none⟩ = some (.int .i64 (ub : Int)) ∧ w'.cell? ⟨bm, b, none⟩ = some (.bool true))) (by kernel_rfl) ⟨⟨c0, c1, c2, c3, c4⟩, d1, d2, d3⟩ (fun hHeld => ?_)
          refine wpAnyH_take (i := 0) (v := ?_) rfl (by kernel_rfl) (by kernel_rfl) (by kernel_rfl) (fun _ _ _ h => h) (Or.inl ⟨by rfl, ?_⟩) (by assumption) ?_
          rotate_left
          focus
            intro w hSw
            try dsimp only at hSw
            go_simp
            try with_reducible rfl
          try simp only [List.getElem_toArray, List.getElem_cons_succ, List.getElem_cons_zero, Act.put, List.setIfInBounds_toArray, List.set_cons_zero, List.set_cons_succ]
          refine wpAnyH_take (i := 1) (v := ?_) rfl (by kernel_rfl) (by kernel_rfl) (by kernel_rfl) (fun _ _ _ h => h) (Or.inl ⟨by rfl, ?_⟩) (by assumption) ?_
          rotate_left
          focus
            intro w hSw
            try dsimp only at hSw
            go_simp
            try with_reducible rfl
          try simp only [List.getElem_toArray, List.getElem_cons_succ, List.getElem_cons_zero, Act.put, List.setIfInBounds_toArray, List.set_cons_zero, List.set_cons_succ]
          refine wpAnyH_take (i := 2) (v := ?_) rfl (by kernel_rfl) (by kernel_rfl) (by kernel_rfl) (fun _ _ _ h => h) (Or.inl ⟨by rfl, ?_⟩) (by assumption) ?_
          rotate_left
          focus
            intro w hSw
            try dsimp only at hSw
            go_simp
            try with_reducible rfl
          try simp only [List.getElem_toArray, List.getElem_cons_succ, List.getElem_cons_zero, Act.put, List.setIfInBounds_toArray, List.set_cons_zero, List.set_cons_succ]
          refine wpAnyH_take (i := 3) (v := ?_) rfl (by kernel_rfl) (by kernel_rfl) (by kernel_rfl) (fun _ _ _ h => h) (Or.inl ⟨by rfl, ?_⟩) (by assumption) ?_
          rotate_left
          focus
            intro w hSw
            try dsimp only at hSw
            go_simp
            try with_reducible rfl
          try simp only [List.getElem_toArray, List.getElem_cons_succ, List.getElem_cons_zero, Act.put, List.setIfInBounds_toArray, List.set_cons_zero, List.set_cons_succ]
          refine wpAnyH_take (i := 4) (v := ?_) rfl (by kernel_rfl) (by kernel_rfl) (by kernel_rfl) (fun _ _ _ h => h) (Or.inl ⟨by rfl, ?_⟩) (by assumption) ?_
          rotate_left
          focus
            intro w hSw
            try dsimp only at hSw
            go_simp
            try with_reducible rfl
          try simp only [List.getElem_toArray, List.getElem_cons_succ, List.getElem_cons_zero, Act.put, List.setIfInBounds_toArray, List.set_cons_zero, List.set_cons_succ]
          refine wpAnyH_take (i := 5) (v := ?_) rfl (by kernel_rfl) (by kernel_rfl) (by kernel_rfl) (fun _ _ _ h => h) (Or.inl ⟨by rfl, ?_⟩) (by assumption) ?_
          rotate_left
          focus
            intro w hSw
            try dsimp only at hSw
            go_simp
            try with_reducible rfl
          try simp only [List.getElem_toArray, List.getElem_cons_succ, List.getElem_cons_zero, Act.put, List.setIfInBounds_toArray, List.set_cons_zero, List.set_cons_succ]
          refine wpAnyH_take (i := 6) (v := ?_) rfl (by kernel_rfl) (by kernel_rfl) (by kernel_rfl) (fun _ _ _ h => h) (Or.inl ⟨by rfl, ?_⟩) (by assumption) ?_
          rotate_left
          focus
            intro w hSw
            try dsimp only at hSw
            go_simp
            try with_reducible rfl
          try simp only [List.getElem_toArray, List.getElem_cons_succ, List.getElem_cons_zero, Act.put, List.setIfInBounds_toArray, List.set_cons_zero, List.set_cons_succ]
          refine wpAnyH_take (i := 7) (v := ?_) rfl (by kernel_rfl) (by kernel_rfl) (by kernel_rfl) (fun _ _ _ h => h) (Or.inl ⟨by rfl, ?_⟩) (by assumption) ?_
          rotate_left
          focus
            intro w hSw
            try dsimp only at hSw
            go_simp
            try with_reducible rfl
          try simp only [List.getElem_toArray, List.getElem_cons_succ, List.getElem_cons_zero, Act.put, List.setIfInBounds_toArray, List.set_cons_zero, List.set_cons_succ]
          refine wpAnyH_take (i := 8) (v := ?_) rfl (by kernel_rfl) (by kernel_rfl) (by kernel_rfl) (fun _ _ _ h => h) (Or.inl ⟨by rfl, ?_⟩) (by assumption) ?_
          rotate_left
          focus
            intro w hSw
            try dsimp only at hSw
            go_simp
            try with_reducible rfl
          try simp only [List.getElem_toArray, List.getElem_cons_succ, List.getElem_cons_zero, Act.put, List.setIfInBounds_toArray, List.set_cons_zero, List.set_cons_succ]
          refine wpAnyH_take (i := 9) (v := ?_) rfl (by kernel_rfl) (by kernel_rfl) (by kernel_rfl) (fun _ _ _ h => h) (Or.inl ⟨by rfl, ?_⟩) (by assumption) ?_
          rotate_left
          focus
            intro w hSw
            try dsimp only at hSw
            go_simp
            try with_reducible rfl
          try simp only [List.getElem_toArray, List.getElem_cons_succ, List.getElem_cons_zero, Act.put, List.setIfInBounds_toArray, List.set_cons_zero, List.set_cons_succ]
          refine wpAnyH_take (i := 10) (v := ?_) rfl (by kernel_rfl) (by kernel_rfl) (by kernel_rfl) (fun _ _ _ h => h) (Or.inl ⟨by rfl, ?_⟩) (by assumption) ?_
          rotate_left
          focus
            intro w hSw
            try dsimp only at hSw
            go_simp
            try with_reducible rfl
          try simp only [List.getElem_toArray, List.getElem_cons_succ, List.getElem_cons_zero, Act.put, List.setIfInBounds_toArray, List.set_cons_zero, List.set_cons_succ]
          refine wpAnyH_take (i := 11) (v := ?_) rfl (by kernel_rfl) (by kernel_rfl) (by kernel_rfl) (fun _ _ _ h => h) (Or.inl ⟨by rfl, ?_⟩) (by assumption) ?_
          rotate_left
          focus
            intro w hSw
            try dsimp only at hSw
            go_simp
            try with_reducible rfl
          try simp only [List.getElem_toArray, List.getElem_cons_succ, List.getElem_cons_zero, Act.put, List.setIfInBounds_toArray, List.set_cons_zero, List.set_cons_succ]
          refine wpAnyH_take (i := 12) (v := ?_) rfl (by kernel_rfl) (by kernel_rfl) (by kernel_rfl) (fun _ _ _ h => h) (Or.inl ⟨by rfl, ?_⟩) (by assumption) ?_
          rotate_left
          focus
            intro w hSw
            try dsimp only at hSw
            go_simp
            try with_reducible rfl
          try simp only [List.getElem_toArray, List.getElem_cons_succ, List.getElem_cons_zero, Act.put, List.setIfInBounds_toArray, List.set_cons_zero, List.set_cons_succ]
          refine wpAnyH_take (i := 13) (v := ?_) rfl (by kernel_rfl) (by kernel_rfl) (by kernel_rfl) (fun _ _ _ h => h) (Or.inl ⟨by rfl, ?_⟩) (by assumption) ?_
          rotate_left
          focus
            intro w hSw
            try dsimp only at hSw
            go_simp
            try with_reducible rfl
          try simp only [List.getElem_toArray, List.getElem_cons_succ, List.getElem_cons_zero, Act.put, List.setIfInBounds_toArray, List.set_cons_zero, List.set_cons_succ]
          refine wpAnyH_take (i := 14) (v := ?_) rfl (by kernel_rfl) (by kernel_rfl) (by kernel_rfl) (fun _ _ _ h => h) (Or.inl ⟨by rfl, ?_⟩) (by assumption) ?_
          rotate_left
          focus
            intro w hSw
            try dsimp only at hSw
            go_simp
            try with_reducible rfl
          try simp only [List.getElem_toArray, List.getElem_cons_succ, List.getElem_cons_zero, Act.put, List.setIfInBounds_toArray, List.set_cons_zero, List.set_cons_succ]
          refine wpAnyH_take (i := 15) (v := ?_) rfl (by kernel_rfl) (by kernel_rfl) (by kernel_rfl) (fun _ _ _ h => h) (Or.inl ⟨by rfl, ?_⟩) (by assumption) ?_
          rotate_left
          focus
            intro w hSw
            try dsimp only at hSw
            go_simp
            try with_reducible rfl
          try simp only [List.getElem_toArray, List.getElem_cons_succ, List.getElem_cons_zero, Act.put, List.setIfInBounds_toArray, List.set_cons_zero, List.set_cons_succ]
          refine wpAnyH_take (i := 16) (v := ?_) rfl (by kernel_rfl) (by kernel_rfl) (by kernel_rfl) (fun _ _ _ h => h) (Or.inl ⟨by rfl, ?_⟩) (by assumption) ?_
          rotate_left
          focus
            intro w hSw
            try dsimp only at hSw
            go_simp
            try with_reducible rfl
          try simp only [List.getElem_toArray, List.getElem_cons_succ, List.getElem_cons_zero, Act.put, List.setIfInBounds_toArray, List.set_cons_zero, List.set_cons_succ]
          refine wpAnyH_take (i := 17) (v := ?_) rfl (by kernel_rfl) (by kernel_rfl) (by kernel_rfl) (fun _ _ _ h => h) (Or.inl ⟨by rfl, ?_⟩) (by assumption) ?_
          rotate_left
          focus
            intro w hSw
            try dsimp only at hSw
            go_simp
            try with_reducible rfl
          try simp only [List.getElem_toArray, List.getElem_cons_succ, List.getElem_cons_zero, Act.put, List.setIfInBounds_toArray, List.set_cons_zero, List.set_cons_succ]
          refine wpAnyH_take (i := 18) (v := ?_) rfl (by kernel_rfl) (by kernel_rfl) (by kernel_rfl) (fun _ _ _ h => h) (Or.inl ⟨by rfl, ?_⟩) (by assumption) ?_
          rotate_left
          focus
            intro w hSw
            try dsimp only at hSw
            go_simp
            try with_reducible rfl
          try simp only [List.getElem_toArray, List.getElem_cons_succ, List.getElem_cons_zero, Act.put, List.setIfInBounds_toArray, List.set_cons_zero, List.set_cons_succ]
          refine wpAnyH_take (i := 19) (v := ?_) rfl (by kernel_rfl) (by kernel_rfl) (by kernel_rfl) (fun _ _ _ h => h) (Or.inl ⟨by rfl, ?_⟩) (by assumption) ?_
          rotate_left
          focus
            intro w hSw
            try dsimp only at hSw
            go_simp
            try with_reducible rfl
          try simp only [List.getElem_toArray, List.getElem_cons_succ, List.getElem_cons_zero, Act.put, List.setIfInBounds_toArray, List.set_cons_zero, List.set_cons_succ]
          refine wpAnyH_take (i := 20) (v := ?_) rfl (by kernel_rfl) (by kernel_rfl) (by kernel_rfl) (fun _ _ _ h => h) (Or.inl ⟨by rfl, ?_⟩) (by assumption) ?_
          rotate_left
          focus
            intro w hSw
            try dsimp only at hSw
            go_simp
            try with_reducible rfl
          try simp only [List.getElem_toArray, List.getElem_cons_succ, List.getElem_cons_zero, Act.put, List.setIfInBounds_toArray, List.set_cons_zero, List.set_cons_succ]
          refine wpAnyH_take (i := 21) (v := ?_) rfl (by kernel_rfl) (by kernel_rfl) (by kernel_rfl) (fun _ _ _ h => h) (Or.inl ⟨by rfl, ?_⟩) (by assumption) ?_
          rotate_left
          focus
            intro w hSw
            try dsimp only at hSw
            go_simp
            try with_reducible rfl
          try simp only [List.getElem_toArray, List.getElem_cons_succ, List.getElem_cons_zero, Act.put, List.setIfInBounds_toArray, List.set_cons_zero, List.set_cons_succ]
          refine wpAnyH_take (i := 22) (v := ?_) rfl (by kernel_rfl) (by kernel_rfl) (by kernel_rfl) (fun _ _ _ h => h) (Or.inl ⟨by rfl, ?_⟩) (by assumption) ?_
          rotate_left
          focus
            intro w hSw
            try dsimp only at hSw
            go_simp
            try with_reducible rfl
          try simp only [List.getElem_toArray, List.getElem_cons_succ, List.getElem_cons_zero, Act.put, List.setIfInBounds_toArray, List.set_cons_zero, List.set_cons_succ]
          refine wpAnyH_take (i := 23) (v := ?_) rfl (by kernel_rfl) (by kernel_rfl) (by kernel_rfl) (fun _ _ _ h => h) (Or.inl ⟨by rfl, ?_⟩) (by assumption) ?_
          rotate_left
          focus
            intro w hSw
            try dsimp only at hSw
            go_simp
            try with_reducible rfl
          try simp only [List.getElem_toArray, List.getElem_cons_succ, List.getElem_cons_zero, Act.put, List.setIfInBounds_toArray, List.set_cons_zero, List.set_cons_succ]
          refine wpAnyH_take (i := 24) (v := ?_) rfl (by kernel_rfl) (by kernel_rfl) (by kernel_rfl) (fun _ _ _ h => h) (Or.inl ⟨by rfl, ?_⟩) (by assumption) ?_
          rotate_left
          focus
            intro w hSw
            try dsimp only at hSw
            go_simp
            try with_reducible rfl
          try simp only [List.getElem_toArray, List.getElem_cons_succ, List.getElem_cons_zero, Act.put, List.setIfInBounds_toArray, List.set_cons_zero, List.set_cons_succ]
          refine wpAnyH_take (i := 25) (v := ?_) rfl (by kernel_rfl) (by kernel_rfl) (by kernel_rfl) (fun _ _ _ h => h) (Or.inl ⟨by rfl, ?_⟩) (by assumption) ?_
          rotate_left
          focus
            intro w hSw
            try dsimp only at hSw
            go_simp
            try with_reducible rfl
          try simp only [List.getElem_toArray, List.getElem_cons_succ, List.getElem_cons_zero, Act.put, List.setIfInBounds_toArray, List.set_cons_zero, List.set_cons_succ]
          refine wpAnyH_take (i := 26) (v := ?_) rfl (by kernel_rfl) (by kernel_rfl) (by kernel_rfl) (fun _ _ _ h => h) (Or.inl ⟨by rfl, ?_⟩) (by assumption) ?_
          rotate_left
          focus
            intro w hSw
            try dsimp only at hSw
            go_simp
            try with_reducible rfl
          try simp only [List.getElem_toArray, List.getElem_cons_succ, List.getElem_cons_zero, Act.put, List.setIfInBounds_toArray, List.set_cons_zero, List.set_cons_succ]
          refine wpAnyH_take (i := 27) (v := ?_) rfl (by kernel_rfl) (by kernel_rfl) (by kernel_rfl) (fun _ _ _ h => h) (Or.inl ⟨by rfl, ?_⟩) (by assumption) ?_
          rotate_left
          focus
            intro w hSw
            try dsimp only at hSw
            go_simp
            try with_reducible rfl
          try simp only [List.getElem_toArray, List.getElem_cons_succ, List.getElem_cons_zero, Act.put, List.setIfInBounds_toArray, List.set_cons_zero, List.set_cons_succ]
          refine wpAnyH_take (i := 29) (v := ?_) rfl (by kernel_rfl) (by kernel_rfl) (by kernel_rfl) (fun _ _ _ h => h) (Or.inl ⟨by rfl, ?_⟩) (by assumption) ?_
          rotate_left
          focus
            intro w hSw
            try dsimp only at hSw
            go_simp
            try with_reducible rfl
          try simp only [List.getElem_toArray, List.getElem_cons_succ, List.getElem_cons_zero, Act.put, List.setIfInBounds_toArray, List.set_cons_zero, List.set_cons_succ]
          refine wpAnyH_take (i := 30) (v := ?_) rfl (by kernel_rfl) (by kernel_rfl) (by kernel_rfl) (fun _ _ _ h => h) (Or.inl ⟨by rfl, ?_⟩) (by assumption) ?_
          rotate_left
          focus
            intro w hSw
            try dsimp only at hSw
            go_simp
            try with_reducible rfl
          try simp only [List.getElem_toArray, List.getElem_cons_succ, List.getElem_cons_zero, Act.put, List.setIfInBounds_toArray, List.set_cons_zero, List.set_cons_succ]
          refine wpAnyH_take (i := 31) (v := ?_) rfl (by kernel_rfl) (by kernel_rfl) (by kernel_rfl) (fun _ _ _ h => h) (Or.inl ⟨by rfl, ?_⟩) (by assumption) ?_
          rotate_left
          focus
            intro w hSw
            try dsimp only at hSw
            go_simp
            try with_reducible rfl
          try simp only [List.getElem_toArray, List.getElem_cons_succ, List.getElem_cons_zero, Act.put, List.setIfInBounds_toArray, List.set_cons_zero, List.set_cons_succ]
          refine wpAnyH_take (i := 32) (v := ?_) rfl (by kernel_rfl) (by kernel_rfl) (by kernel_rfl) (fun _ _ _ h => h) (Or.inl ⟨by rfl, ?_⟩) (by assumption) ?_
          rotate_left
          focus
            intro w hSw
            try dsimp only at hSw
            go_simp
            try with_reducible rfl
          try simp only [List.getElem_toArray, List.getElem_cons_succ, List.getElem_cons_zero, Act.put, List.setIfInBounds_toArray, List.set_cons_zero, List.set_cons_succ]
          refine wpAnyH_take (i := 33) (v := ?_) rfl (by kernel_rfl) (by kernel_rfl) (by kernel_rfl) (fun _ _ _ h => h) (Or.inl ⟨by rfl, ?_⟩) (by assumption) ?_
          rotate_left
          focus
            intro w hSw
            try dsimp only at hSw
            go_simp
            try with_reducible rfl
          try simp only [List.getElem_toArray, List.getElem_cons_succ, List.getElem_cons_zero, Act.put, List.setIfInBounds_toArray, List.set_cons_zero, List.set_cons_succ]
          refine wpAnyH_ready (rs := [28]) (by kernel_rfl) (by simp) ?_
          refine AllReadyH.cons rfl (fun K hK => ?_) AllReadyH.nil
          rw [if_pos (by rfl)]
          go_simp
          go_at_call 24
          refine (HWB.out _ (below_drewN (Below.refl _ _) 1)).mono ?_
          rintro e w10 ⟨bz, mz, rfl, hmz, hmzl, hmzr, hb10⟩
          have hc10 : Below wq.heap.size wq w10 := ⟨hb10.os, hb10.tape, hb10.output, hb10.size, hb10.block⟩
          have qa := HK.out w10 hc10
          have HC10 := hide hc10
          have mcell := (hmz.cell (b := ua) (by rw [hmzl]; exact hua)).1
          have lbz : bz < w10.heap.size := Box.lt hmz
          obtain ⟨R, hR⟩ : ∃ R, metB mz (ua : Int) = R := ⟨_, rfl⟩
          rw [hR] at mcell
          have HRR := hide (show R = true ↔ Rz f h b (ua : Int) by rw [← hR]; exact hmzr ua)
          clear hR hmz hmzl hmzr hb10 hc10 hHeld
          try go_wp2_with fail
          refine hK.out _ _ qa (fun hHeld => ?_)
          clear hK K
          try simp only [List.getElem_toArray, List.getElem_cons_succ, List.getElem_cons_zero, Act.put, List.setIfInBounds_toArray, List.set_cons_zero, List.set_cons_succ]
          refine wpAnyH_take (i := 34) (v := ?_) rfl (by kernel_rfl) (by kernel_rfl) (by kernel_rfl) (fun _ _ _ h => h) (Or.inl ⟨by rfl, ?_⟩) (by assumption) ?_
          rotate_left
          focus
            intro w hSw
            try dsimp only at hSw
            go_simp
            try with_reducible rfl
          try simp only [List.getElem_toArray, List.getElem_cons_succ, List.getElem_cons_zero, Act.put, List.setIfInBounds_toArray, List.set_cons_zero, List.set_cons_succ]
          refine wpAnyH_ready (rs := [35]) (by kernel_rfl) (by simp) ?_
          refine AllReadyH.cons rfl (fun K hK => ?_) AllReadyH.nil
          rw [if_pos (by rfl)]
          go_simp
          try go_wp2_with fail
          refine hK.out _ _ qa (fun hHeld => ?_)
          clear hK K
          try simp only [List.getElem_toArray, List.getElem_cons_succ, List.getElem_cons_zero, Act.put, List.setIfInBounds_toArray, List.set_cons_zero, List.set_cons_succ]
          refine wpAnyH_take (i := 36) (v := ?_) rfl (by kernel_rfl) (by kernel_rfl) (by kernel_rfl) (fun _ _ _ h => h) (Or.inl ⟨by rfl, ?_⟩) (by assumption) ?_
          rotate_left
          focus
            intro w hSw
            try dsimp only at hSw
            go_simp
            try with_reducible rfl
          try simp only [List.getElem_toArray, List.getElem_cons_succ, List.getElem_cons_zero, Act.put, List.setIfInBounds_toArray, List.set_cons_zero, List.set_cons_succ]
          refine wpAnyH_take (i := 37) (v := ?_) rfl (by kernel_rfl) (by kernel_rfl) (by kernel_rfl) (fun _ _ _ h => h) (Or.inl ⟨by rfl, ?_⟩) (by assumption) ?_
          rotate_left
          focus
            intro w hSw
            try dsimp only at hSw
            go_simp
            try with_reducible rfl
          try simp only [List.getElem_toArray, List.getElem_cons_succ, List.getElem_cons_zero, Act.put, List.setIfInBounds_toArray, List.set_cons_zero, List.set_cons_succ]
          refine wpAnyH_take (i := 38) (v := ?_) rfl (by kernel_rfl) (by kernel_rfl) (by kernel_rfl) (fun _ _ _ h => h) (Or.inl ⟨by rfl, ?_⟩) (by assumption) ?_
          rotate_left
          focus
            intro w hSw
            try dsimp only at hSw
            go_simp
            try with_reducible rfl
          try simp only [List.getElem_toArray, List.getElem_cons_succ, List.getElem_cons_zero, Act.put, List.setIfInBounds_toArray, List.set_cons_zero, List.set_cons_succ]
          refine wpAnyH_take (i := 39) (v := ?_) rfl (by kernel_rfl) (by kernel_rfl) (by kernel_rfl) (fun _ _ _ h => h) (Or.inl ⟨by rfl, ?_⟩) (by assumption) ?_
          rotate_left
          focus
            intro w hSw
            try dsimp only at hSw
            go_simp
            try with_reducible rfl
          try simp only [List.getElem_toArray, List.getElem_cons_succ, List.getElem_cons_zero, Act.put, List.setIfInBounds_toArray, List.set_cons_zero, List.set_cons_succ]
          refine wpAnyH_take (i := 40) (v := ?_) rfl (by kernel_rfl) (by kernel_rfl) (by kernel_rfl) (fun _ _ _ h => h) (Or.inl ⟨by rfl, ?_⟩) (by assumption) ?_
          rotate_left
          focus
            intro w hSw
            try dsimp only at hSw
            go_simp
            try with_reducible rfl
          try simp only [List.getElem_toArray, List.getElem_cons_succ, List.getElem_cons_zero, Act.put, List.setIfInBounds_toArray, List.set_cons_zero, List.set_cons_succ]
          refine wpAnyH_done (by kernel_rfl) ?_ _
          all_goals
            have HN2 := hide (show R = true ↔ LpTo f es h b (k + 1) by
              rw [HST.out, HRR.out]
              constructor
              · exact fun e => .inr ⟨HUB.out, .inr ⟨HRCH.out, e⟩⟩
              · intro e
                rcases e with e | ⟨-, e | ⟨-, e⟩⟩
                · exact absurd e HNO.out
                · exact absurd e HBH.out
                · exact e)
            have HB10 := hide (HBQ.out.trans (HC10.out.mono hszq))
            clear c0 c1 c2 c3 c4 d1 d2 d3
            go_wp2
            go_roundw
            case rel => exact ⟨R, k + 1, rfl, by omega, by go_num, by first | exact HB10.out | exact below_drewN HB10.out _, HN2⟩
            case measure => simp [intOf]; omega
end Go.Proofs.Ytlolgahaphmfoaa
