/- Texts of several names, of which only what the statement needs is kept. -/
import Derived.Test.YtnoknodijombpaaPgPQ
import Derived.Test.YtnoknodijombpaaPgLA
/- Layer 14: the reference's Whole, by what its Lay answers. -/
set_option linter.unusedSimpArgs false
set_option linter.unusedVariables false
namespace Go.Proofs.Ytnoknodijombpaa
open Go.RowKit

set_option maxHeartbeats 4000000 in
set_option maxRecDepth 100000 in
theorem rwholeL_of (vp : Value) (p : List FunV) (w : World) (B : Nat) (hB : B ≤ w.heap.size) (hp : FunsV w (· < B) vp p) (hS : ∀ f ∈ p, ∀ (W : World) (vk vb vs : Value) (B : Nat), B ≤ W.heap.size → FunI W (· < B) vk vb vs f → Calls Try.prog 21 #[.agg #[vk, vb, .int .i64 f.params, .int .i64 f.result, vs]] W (LayA f W)) (hlen : p.length ≤ 100000) :
    Calls Try.prog 23 #[.agg #[vp]] w (WhLA p w) := by
  have HKP := hide (fun (W : World) (hW : Below w.heap.size w W) => hp.keep (up hW hB) (fun _ h => h))
  have HOKS := hide hS
  have HBB := hide hB
  obtain ⟨iF, hiF, fz0, fz1, fz2⟩ := info_parts info_func13
  have HIF := hide hiF
  obtain ⟨A, c, rfl, hpc, hpm⟩ := hp.open'
  obtain ⟨lp, hlp⟩ : ∃ lp, p.length = lp := ⟨_, rfl⟩
  have HLP := hide hlp
  rw [hlp] at HKP hpc hlen ⊢
  clear hp hlp hS hB hiF
  go_enter Try.func23, Try.ntmps23
  go_upto_region 3 with (fail)
  obtain ⟨w1, hw1⟩ : ∃ w1, w1 = ((w.alloc (.cells #[.slice A lp c] 24)).alloc (.cells #[.slice none 0 0] 24)).alloc (.cells #[.slice none 0 0] 24) := ⟨_, rfl⟩
  obtain ⟨h1, hh1⟩ : ∃ h1, w.heap.size = h1 := ⟨_, rfl⟩
  have HH1 := hide hh1
  have HW1 := hide (show WhB (.slice A lp c) h1 (.slice none 0 0) [] w w1 by
    have q1 : Box w1 h1 #[.slice A lp c] 24 := by rw [hw1, ← hh1]; exact ((Box.new w _ _).alloc _).alloc _
    have q2 : Box w1 (h1 + 1) #[.slice none 0 0] 24 := by
      have t := Box.new (w.alloc (.cells #[.slice A lp c] 24)) #[.slice none 0 0] 24
      rw [World.size_alloc, hh1] at t
      rw [hw1]
      exact t.alloc _
    have q3 : Box w1 (h1 + 2) #[.slice none 0 0] 24 := by
      have t := Box.new ((w.alloc (.cells #[.slice A lp c] 24)).alloc (.cells #[.slice none 0 0] 24)) #[.slice none 0 0] 24
      rw [World.size_alloc, World.size_alloc, hh1] at t
      rw [hw1]
      exact t
    exact ⟨q1, q2, q3, OwC.nil _ _, (fun _ h => by cases h), by rw [hw1]; exact ((alloc1 w _).alloc (by simp only [World.size_alloc]; omega) _).alloc (by simp only [World.size_alloc]; omega) _⟩)
  rw [← hw1, hh1]
  clear hw1 hh1
  have l1 := HW1.out.bp.lt
  go_loopw [5] (fun i wr => ∃ (k : Nat) (v : Value) (ys : List (FunV × Value × Value × Value)), k ≤ lp ∧ i = .int .i64 (k : Int) ∧ WhB (.slice A lp c) h1 v ys w wr ∧ Hid (ys.map (·.1) = (p.take k).map layF ∧ ∀ f ∈ p.take k, fitsL f = true)) (fun i _ => lp - (intOf i).toNat)
  case atStart => exact ⟨0, _, [], Nat.zero_le _, rfl, HW1.out, hide ⟨rfl, fun f hf => by simp at hf⟩⟩
  case round =>
    obtain ⟨k, v, ys, hk, rfl, hb', hys⟩ := hrel
    obtain ⟨wo, rfl⟩ : ∃ wo, wo = wr := ⟨_, rfl⟩
    have HYL := hide (show ys.length = k by have := congrArg List.length hys.out.1; simp at this; have := HLP.out; omega)
    obtain ⟨Av, cv, hv, -, -⟩ := hb'.own.sl
    rw [HYL.out] at hv
    subst hv
    have HWO := hide hb'
    clear hb'
    have hszo := HWO.out.bel.size
    obtain ⟨p0, p0f⟩ := HWO.out.bp.cell 0 (v := .slice A lp c) rfl
    have lp0 := HWO.out.bp.lt
    by_cases hlt : k < lp
    case neg =>
      have HZ := hide (HWO.out.vec (by have := HH1.out; omega))
      have HYA := hide (show p.all fitsL = true by
        rw [List.all_eq_true]
        intro f hf
        exact hys.out.2 f (by rw [List.take_of_length_le (by have := HLP.out; omega)]; exact hf))
      have HYM := hide (show ys.map (·.1) = p.map layF by rw [hys.out.1, List.take_of_length_le (by have := HLP.out; omega)])
      obtain ⟨x0, x0f⟩ := HWO.out.bx.cell 0 (v := .slice Av k cv) rfl
      obtain ⟨z0, z0f⟩ := HWO.out.bz.cell 0 (v := .slice none 0 0) rfl
      have lz := HWO.out.bz.lt
      have lx := HWO.out.bx.lt
      go_wp2
      (try simp only [Exit.inBlock, Exit.then])
      refine bodyPost_ret (results_cell_row_tmp rfl _ _ (h1 + 1) 24 #[.slice Av k cv] (0, 0) _ (by rfl) HZ.out.1 Try.underlying24 rfl size_prog13) rfl ?_
      exact ⟨fun _ => ⟨_, rfl, by rw [← HYM.out]; exact HZ.out.2.1, HZ.out.2.2⟩, fun h => by rw [HYA.out] at h; cases h⟩
    have HKLT := hide hlt
    obtain ⟨f, hf⟩ : ∃ f, p[k]? = some f := ⟨_, List.getElem?_eq_getElem (by have := HLP.out; omega)⟩
    obtain ⟨b, o, Ak, ck, Ab, cb, As, cs, hA, hbb, ⟨e0, e1, e2, e3, e4⟩, hi⟩ := (HKP.out wo HWO.out.bel).get hf
    subst hA
    have hbs : b < wo.heap.size := by have := HBB.out; omega
    have HLF := hide (HOKS.out f (List.mem_of_getElem? hf))
    have kI := fun (W : World) (hW : Below wo.heap.size wo W) => hi.keep (w := wo) (S := (· < B)) (up hW (by have := HBB.out; omega)) (fun _ h => h)
    have HSPL := hide (fun (W : World) (hW : Below wo.heap.size wo W) => (HLF.out W _ _ _ B (by have := hW.size; have := HBB.out; omega) (kI W hW)).mono (R' := fun e w' => (fitsL f = true → ∃ v1 v2 v3, e = .returned (.tuple #[.agg #[v1, v2, .int .i64 f.params, .int .i64 f.result, v3], .int .i64 0]) ∧ FunI w' (NF w') v1 v2 v3 (layF f) ∧ Below W.heap.size W w') ∧ (fitsL f = false → e = .returned (.tuple #[.agg #[.slice none 0 0, .slice none 0 0, .int .i64 0, .int .i64 0, .slice none 0 0], .int .i64 9]) ∧ Below W.heap.size W w')) (fun e w' h => h))
    have HTK := hide (show p.take (k + 1) = p.take k ++ [f] by rw [List.take_add_one, hf]; rfl)
    have HMF := hide (List.mem_of_getElem? hf)
    obtain ⟨ft, hft⟩ : ∃ ft, fitsL f = ft := ⟨_, rfl⟩
    have HFT := hide hft
    rw [hft] at HSPL
    obtain ⟨fg, hfg⟩ : ∃ fg, layF f = fg := ⟨_, rfl⟩
    have HFG := hide hfg
    have HPP := hide (show f.params = fg.params ∧ f.result = fg.result by rw [← hfg]; exact ⟨rfl, rfl⟩)
    rw [hfg] at HSPL
    obtain ⟨ls, hls2⟩ : ∃ ls, f.blocks.length = ls := ⟨_, rfl⟩
    rw [hls2] at HSPL e4
    clear hi hf kI hls2 hft hfg
    obtain ⟨fp, hfp⟩ : ∃ fp, f.params = fp := ⟨_, rfl⟩
    obtain ⟨fr, hfr⟩ : ∃ fr, f.result = fr := ⟨_, rfl⟩
    rw [hfp] at HPP HSPL e2
    rw [hfr] at HPP HSPL e3
    generalize f.kinds.length = lk, f.base.length = lb at *
    have hki : (0 : Int) ≤ (k : Int) := by omega
    have hkl : (k : Int) < (lp : Int) := by omega
    clear hfp hfr
    have HSPW := hide (HSPL.out wo (Below.refl _ _))
    cases ft with
    | false =>
      have HYN := hide (show p.all fitsL = false by
        cases ha : p.all fitsL with
        | false => rfl
        | true =>
          have := List.all_eq_true.1 ha f HMF.out
          rw [HFT.out] at this
          cases this)
      go_upto_region 6 with (go_at_call 21; (with_reducible refine HSPW.out.mono ?_); rintro e w7 ⟨-, h7⟩; obtain ⟨rfl, hb7⟩ := h7 rfl; have HW7 := hide (HWO.out.below hb7); clear hb7 h7 e0 e1 e2 e3 e4 p0 p0f lp0)
      obtain ⟨w8, hw8⟩ : ∃ w8, w8 = w7.alloc (.cells #[.slice none 0 0, .slice none 0 0, .int .i64 0, .int .i64 0, .slice none 0 0] 30) := ⟨_, rfl⟩
      have HW8 := hide (show WhB (.slice (some ⟨b, o, none⟩) lp c) h1 (.slice Av k cv) ys w w8 by rw [hw8]; exact HW7.out.below (alloc1 w7 _))
      rw [← hw8]
      clear hw8
      obtain ⟨z0, z0f⟩ := HW8.out.bz.cell 0 (v := .slice none 0 0) rfl
      have lz := HW8.out.bz.lt
      have HZ := hide (show Box (w8.setCell ⟨h1 + 1, 0, none⟩ (.slice none 0 0)) (h1 + 1) #[.slice none 0 0] 24 by have t := HW8.out.bz.set 0 (.slice none 0 0); simpa using t)
      have HZB := hide (show Below w.heap.size w (w8.setCell ⟨h1 + 1, 0, none⟩ (.slice none 0 0)) from Below.setCell HW8.out.bel (by show _ ≤ h1 + 1; have := HH1.out; omega) _)
      go_wp2
      (try simp only [Exit.inBlock, Exit.then])
      refine bodyPost_ret (results_cell_row_tmp rfl _ _ (h1 + 1) 24 #[.slice none 0 0] (0, 0) _ (by rfl) HZ.out Try.underlying24 rfl size_prog13) rfl ?_
      exact ⟨fun h => (by rw [HYN.out] at h; cases h), fun _ => ⟨rfl, HZB.out⟩⟩
    | true =>
      obtain ⟨gk, hgk⟩ : ∃ gk, fg.kinds.length = gk := ⟨_, rfl⟩
      obtain ⟨gb, hgb⟩ : ∃ gb, fg.base.length = gb := ⟨_, rfl⟩
      obtain ⟨gl, hgl⟩ : ∃ gl, fg.blocks.length = gl := ⟨_, rfl⟩
      have HGK := hide hgk
      have HGB := hide hgb
      have HGL := hide hgl
      clear hgk hgb hgl
      go_upto_region 6 with (go_at_call 21; (with_reducible refine HSPW.out.mono ?_); rintro e w7 ⟨h7, -⟩; obtain ⟨v1, v2, v3, rfl, hf7, hb7⟩ := h7 rfl; obtain ⟨A1, k1, hv1, -, -⟩ := hf7.1.open'; obtain ⟨A2, k2, hv2, -, -⟩ := hf7.2.1.open'; obtain ⟨A4, k4, hv4, -, -⟩ := hf7.2.2.1.open'; rw [HGK.out] at hv1; rw [HGB.out] at hv2; rw [HGL.out] at hv4; subst hv1; subst hv2; subst hv4; have HF7 := hide hf7; have HW7 := hide (HWO.out.below hb7); clear hb7 h7 hf7 e0 e1 e2 e3 e4 p0 p0f lp0)
      obtain ⟨w8, hw8⟩ : ∃ w8, w8 = w7.alloc (.cells #[.slice A1 gk k1, .slice A2 gb k2, .int .i64 fp, .int .i64 fr, .slice A4 gl k4] 30) := ⟨_, rfl⟩
      obtain ⟨h8, hh8⟩ : ∃ h8, w7.heap.size = h8 := ⟨_, rfl⟩
      have HX8 := hide (show Box w8 h8 #[.slice A1 gk k1, .slice A2 gb k2, .int .i64 fp, .int .i64 fr, .slice A4 gl k4] 30 by rw [hw8, ← hh8]; exact Box.new w7 _ _)
      have HW8 := hide (show WhB (.slice (some ⟨b, o, none⟩) lp c) h1 (.slice Av k cv) ys w w8 by rw [hw8]; exact HW7.out.below (alloc1 w7 _))
      have HF8 := hide (show FunI w8 (NF w8) (.slice A1 gk k1) (.slice A2 gb k2) (.slice A4 gl k4) fg by rw [hw8]; exact funI_NF HF7.out (fun x hx => (alloc1 w7 _ : Below w7.heap.size w7 _).block x hx.lt))
      rw [← hw8, hh8]
      clear hw8 hh8
      have l8 := HX8.out.lt
      obtain ⟨y0, y0f⟩ := HX8.out.cell 0 (v := .slice A1 gk k1) rfl
      obtain ⟨y1, y1f⟩ := HX8.out.cell 1 (v := .slice A2 gb k2) rfl
      obtain ⟨y2, y2f⟩ := HX8.out.cell 2 (v := .int .i64 fp) rfl
      obtain ⟨y3, y3f⟩ := HX8.out.cell 3 (v := .int .i64 fr) rfl
      obtain ⟨y4, y4f⟩ := HX8.out.cell 4 (v := .slice A4 gl k4) rfl
      obtain ⟨x0, x0f⟩ := HW8.out.bx.cell 0 (v := .slice Av k cv) rfl
      have lx := HW8.out.bx.lt
      have HOW := hide (show OwC funC 30 5 (w8.alloc (.cells #[.slice A1 gk k1, .slice A2 gb k2, .int .i64 fp, .int .i64 fr, .slice A4 gl k4] 30)) w.heap.size (.slice Av k cv) ys from (HW8.out.below (alloc1 w8 _)).own)
      have HNX := hide (Box.new w8 #[.slice A1 gk k1, .slice A2 gb k2, .int .i64 fp, .int .i64 fr, .slice A4 gl k4] 30)
      have hroom : k < 1000000 := by omega
      have HGE : ∀ (v5 : Value) (w9 : World), OwC funC 30 5 w9 w.heap.size v5 (ys ++ [(fg, .slice A1 gk k1, .slice A2 gb k2, .slice A4 gl k4)]) → (w8.alloc (.cells #[.slice A1 gk k1, .slice A2 gb k2, .int .i64 fp, .int .i64 fr, .slice A4 gl k4] 30)).grownBy w9 (Value.slice Av k cv).ownBlock → WhB (.slice (some ⟨b, o, none⟩) lp c) h1 v5 (ys ++ [(fg, .slice A1 gk k1, .slice A2 gb k2, .slice A4 gl k4)]) w (w9.setCell ⟨h1 + 2, 0, none⟩ v5) ∧ Box w9 (h1 + 2) #[.slice Av k cv] 24 := fun v5 w9 ho hg => by
        refine ⟨HW8.out.app (by have := HH1.out; omega) HF8.out (by rw [← HPP.out.1, ← HPP.out.2]; exact hg) ho, ?_⟩
        exact (hg.block (h1 + 2) (by simp only [World.size_alloc]; omega) (fun e => tb_ne HW8.out.bx.tb (HW8.out.own.row _ e.symm) (by decide) rfl)).trans (HW8.out.bx.alloc _)
      have HGE := hide HGE
      go_wp2_with (at_builtin; refine wpList_append_c (c := funC) (sz := 5) (w8.alloc (.cells #[.slice A1 gk k1, .slice A2 gb k2, .int .i64 fp, .int .i64 fr, .slice A4 gl k4] 30)) (by rfl) _ _ _ (by rfl) w.heap.size iF _ 88 Try.underlying22 HIF.out fz0 fz1 fz2 rfl (by omega) (by omega) (.slice Av k cv) ys k HYL.out (by rfl) HOW.out (fg, .slice A1 gk k1, .slice A2 gb k2, .slice A4 gl k4) rfl (by intro u hu; simp [funC] at hu; rcases hu with rfl | rfl | rfl | rfl | rfl <;> rfl) w8.heap.size _ HNX.out (by show _ = [_, _, Value.int .i64 fg.params, Value.int .i64 fg.result, _]; rw [← HPP.out.1, ← HPP.out.2]) (by rfl) hroom (by simp only [World.size_alloc]; have := HW8.out.bel.size; omega) ?_; intro g9 c9 w9 ho9 hg9 ha9 hl9; obtain ⟨hwn, hbx⟩ := HGE.out _ w9 ho9 hg9; have HA9 := hide hwn; obtain ⟨x4', f4'⟩ := hbx.cell 0 (v := .slice Av k cv) rfl; have lx9 := hbx.lt; clear ho9 hg9 hwn hbx)
      go_roundw
      case rel => exact ⟨k + 1, _, _, by have := HKLT.out; omega, by go_num, HA9.out, hide ⟨by rw [HTK.out, List.map_append, List.map_append, hys.out.1]; simp [HFG.out], fun x hx => by
        rw [HTK.out] at hx
        rcases List.mem_append.1 hx with hx | hx
        · exact hys.out.2 x hx
        · simp at hx
          rw [hx]
          exact HFT.out⟩⟩
      case measure => have := HKLT.out; simp [intOf]; omega
end Go.Proofs.Ytnoknodijombpaa

/- Layer 7, plain mathematics: how deep a block is; loops are one within the other or apart; what falls off when nothing turns back. Condition: the function is one of a program that may be. -/
set_option linter.unusedSimpArgs false
set_option linter.unusedVariables false
namespace Go.Proofs.Ytnoknodijombpaa
open Go.RowKit

section
variable {f : FunV} {o : List Int} {p : Int → Int → Bool} {A : List Int} {B : Int → List Int} {hs : List Int}
theorem IsBody.nod {es : List (Int × Int)} {h : Int} {l : List Int} (b : IsBody f es h l) : l.Nodup := b.1.imp fun h e => by omega
theorem IsBody.nat {es : List (Int × Int)} {h : Int} {l : List Int} (b : IsBody f es h l) {y : Int} (hy : y ∈ l) : ∃ x : Nat, y = x ∧ x < f.blocks.length := by
  obtain ⟨x, e, hx, -⟩ := (b.2 y).1 hy
  exact ⟨x, e, hx⟩
theorem IsBody.len {es : List (Int × Int)} {h : Int} {l : List Int} (b : IsBody f es h l) : l.length ≤ f.blocks.length := nodup_len b.nod fun y hy => by
  obtain ⟨x, e, hx⟩ := b.nat hy
  omega
theorem IsHeads.nod {es : List (Int × Int)} {l : List Int} (b : IsHeads es l) : l.Nodup := b.1.imp fun h e => by omega
/-- What is left of a walk that doesn't turn back falls off, turn by turn. -/
structure FallI (f : FunV) (o : List Int) (t b : Nat) (m : List Bool) : Prop where
  len : m.length = f.blocks.length
  fal : ∀ c : Nat, (c : Int) ∈ o → ((o.length : Int) - placeN o c < t ∨ (c < b ∧ (o.length : Int) - placeN o c ≤ t)) → metB m c = true
theorem FallI.start (f : FunV) (o : List Int) : FallI f o 0 0 (List.replicate f.blocks.length false) := by
  refine ⟨by simp, fun c hc h => ?_⟩
  have := (placeN_le (l := o) (y := (c : Int))).2
  omega
theorem FallI.put {t b : Nat} {m : List Bool} (h : FallI f o t b m) (hb : b < f.blocks.length) {v : Bool} (hv : metB m b = true → v = true) (hf : (b : Int) ∈ o → (o.length : Int) - placeN o b ≤ t → v = true) : FallI f o t (b + 1) (m.set b v) := by
  refine ⟨by rw [List.length_set]; exact h.len, fun c hc hd => ?_⟩
  have hl := h.len
  by_cases e : c = b
  · subst e
    have : v = true := by
      rcases hd with hd | ⟨-, hd⟩
      · exact hv (h.fal c hc (.inl hd))
      · exact hf hc hd
    subst this
    unfold metB
    simp only [Int.toNat_natCast]
    rw [List.getD_eq_getElem?_getD, List.getElem?_set_self (by omega)]
    rfl
  · have := h.fal c hc (by omega)
    unfold metB at this ⊢
    simp only [Int.toNat_natCast] at this ⊢
    rw [List.getD_eq_getElem?_getD, List.getElem?_set_ne (fun e2 => e e2.symm), ← List.getD_eq_getElem?_getD]
    exact this
theorem FallI.all {t : Nat} {m : List Bool} (h : FallI f o t 0 m) (ht : o.length ≤ t) {c : Nat} (hc : (c : Int) ∈ o) : metB m c = true := h.fal c hc (.inl (by have := placeN_pos hc; omega))
end
end Go.Proofs.Ytnoknodijombpaa
