/- Texts of several names, of which only what the statement needs is kept. -/
import Derived.Test.YtnoknodijombpaaPgLC
import Derived.Test.YtnoknodijombpaaPgPC
/- Layer 7: the edges that turn back, and the back edges, as the program answers. Condition: the function is one of a program that may be. -/
set_option linter.unusedSimpArgs false
set_option linter.unusedVariables false
namespace Go.Proofs.Ytnoknodijombpaa
open Go.RowKit

set_option maxHeartbeats 2000000 in
set_option maxRecDepth 100000 in
theorem only_turns (hb : Nat) (q : Int × Int → Bool) (es : List (Int × Int)) (Ae : Option Addr) (ce : Nat) (w : World) (hn : es.length ≤ 1000) (hs : EdgS w w.heap.size Ae es) (hle : es.length ≤ ce) (hlm : ce ≤ 9223372036854775807)
    (hq : ∀ (W : World), Below w.heap.size w W → ∀ e ∈ es, Calls Try.prog 75 #[.agg #[.int .i64 e.1, .int .i64 e.2], .pointer (some ⟨hb, 0, none⟩)] W fun x w' => x = .returned (.bool (q e)) ∧ Below W.heap.size W w') :
    Calls Try.prog 76 #[.slice Ae es.length ce, .func (.func 75) #[] #[.pointer (some ⟨hb, 0, none⟩)]] w fun e w' => ∃ v, e = .returned v ∧ OwE w' w.heap.size v (es.filter q) ∧ Below w.heap.size w w' := by
  have HQ := hide hq
  have HS := hide hs
  obtain ⟨i0, hi0, iz0, iz1, iz2⟩ := info_parts info_edge
  have HI := hide hi0
  obtain ⟨n, hn'⟩ : ∃ n, es.length = n := ⟨_, rfl⟩
  have HN := hide hn'
  rw [hn'] at hn hle ⊢
  have HFA := hide (fun k (h : n ≤ k) => @fltTo_all q es k (by omega))
  have HFY := hide (fun k (e : Int × Int) (h : es[k]? = some e) (h2 : q e = true) => fltTo_yes h h2)
  have HFN := hide (fun k (e : Int × Int) (h : es[k]? = some e) (h2 : q e = false) => fltTo_no h h2)
  have HFL := hide (fun k => fltTo_len q es k)
  have HF0 := hide (fltTo_zero q es)
  clear hq hs hi0 hn'
  go_enter Try.func76, Try.ntmps76
  go_wp2
  go_loopw [5, 10] (fun l i wr => ∃ (v : Value) (k : Nat), v = l ∧ k ≤ n ∧ i = .int .i64 k ∧ Below w.heap.size w wr ∧ Hid (OwE wr w.heap.size v (fltTo q es k))) (fun _ i _ => n - (intOf i).toNat)
  case atStart => exact ⟨_, 0, rfl, Nat.zero_le _, rfl, Below.refl _ _, hide (by rw [HF0.out]; exact OwE.nil _ _)⟩
  case round =>
    obtain ⟨v, k, rfl, hk, rfl, hb', how⟩ := hrel
    obtain ⟨wo, rfl⟩ : ∃ wo, wo = wr := ⟨_, rfl⟩
    have hsz := hb'.size
    have HBW := hide hb'
    clear hb'
    by_cases hlt : k < n
    case neg =>
      have HO := hide (show OwE wo w.heap.size v (es.filter q) by rw [← HFA.out k (by omega)]; exact how.out)
      go_wp2
      go_ret
      exact ⟨_, rfl, HO.out, HBW.out⟩
    obtain ⟨y, hy⟩ : ∃ y, es[k]? = some y := ⟨_, List.getElem?_eq_getElem (by have := HN.out; omega)⟩
    obtain ⟨be, oe, rfl, hbe, hce'⟩ := HS.out (by have := HN.out; omega)
    obtain ⟨y1, y2⟩ := hce' k y hy
    have d1 := (HBW.out.cell (p := ⟨be, oe + k * 2, none⟩) hbe).trans y1
    have d2 := (HBW.out.cell (p := ⟨be, oe + k * 2 + 1, none⟩) hbe).trans y2
    have hbs : be < wo.heap.size := by omega
    have hym := List.mem_of_getElem? hy
    have HYM := hide hym
    have hfl := HFL.out k
    have hro : (fltTo q es k).length < 1000000 := by omega
    have HRO := hide hro
    have HY := hide hy
    obtain ⟨ya, yb⟩ := y
    simp only at d1 d2
    have HQK := hide (fun (W : World) (hW : Below w.heap.size w W) => HQ.out W hW (ya, yb) HYM.out)
    clear hce' y1 y2 hy hro hfl hym
    go_upto_region 5 with (fail)
    obtain ⟨w4, hw4⟩ : ∃ w4, w4 = wo.alloc (.cells #[.int .i64 ya, .int .i64 yb] 55) := ⟨_, rfl⟩
    obtain ⟨h4, hh4⟩ : ∃ h4, wo.heap.size = h4 := ⟨_, rfl⟩
    have HX4 := hide (show Box w4 h4 #[.int .i64 ya, .int .i64 yb] 55 by rw [hw4, ← hh4]; exact Box.new wo _ _)
    have HB4 := hide (show Below w.heap.size w w4 by rw [hw4]; exact HBW.out.alloc hsz _)
    have HO4 := hide (show OwE w4 w.heap.size v (fltTo q es k) by rw [hw4]; exact how.out.below (alloc1 wo _))
    rw [← hw4, hh4]
    clear hw4 hh4 d1 d2 hbs
    have l4 := HX4.out.lt
    have d1 := (HX4.out.cell 0 (v := .int .i64 ya) rfl).1
    have d2 := (HX4.out.cell 1 (v := .int .i64 yb) rfl).1
    have hz4 := HB4.out.size
    cases hqv : q (ya, yb) with
    | true =>
      have HST := hide (HFY.out k _ HY.out hqv)
      rw [hqv] at HQK
      clear hqv
      go_wp2_with (first
        | (at_builtin; refine wpList_append_edge w5 rfl (.tmp 17) (.tmp 19) _ rfl w.heap.size i0 _ Try.underlying35 HI.out iz0 iz1 iz2 rfl v (fltTo q es k) (by rfl) HO5.out ya yb (by rfl) HRO.out HB5.out.size ?_; intro v6 w6 ho6 hb6 hf6 hv6)
        | (go_at_call 75; refine (HQK.out w4 HB4.out).mono ?_; rintro e w5 ⟨rfl, hb5⟩; have HO5 := hide (HO4.out.below hb5); have HB5 := hide (HB4.out.trans (hb5.mono hz4)); have hx5 := HX4.out.below hb5; have l5 := hx5.lt; have f1 := (hx5.cell 0 (v := .int .i64 ya) rfl).1; have f2 := (hx5.cell 1 (v := .int .i64 yb) rfl).1; clear hx5 hb5))
      go_roundw
      case rel => exact ⟨v6, k + 1, rfl, by omega, by go_num, HB5.out.trans hb6, hide (by rw [← HST.out]; exact ho6)⟩
      case measure => simp [intOf]; omega
    | false =>
      have HST := hide (HFN.out k _ HY.out hqv)
      rw [hqv] at HQK
      clear hqv
      go_wp2_with (go_at_call 75; refine (HQK.out w4 HB4.out).mono ?_; rintro e w5 ⟨rfl, hb5⟩; have HO5 := hide (HO4.out.below hb5); have HB5 := hide (HB4.out.trans (hb5.mono hz4)); clear hb5)
      go_roundw
      case rel => exact ⟨v, k + 1, rfl, by omega, by go_num, HB5.out, hide (by rw [← HST.out]; exact HO5.out)⟩
      case measure => simp [intOf]; omega
set_option maxHeartbeats 2000000 in
set_option maxRecDepth 100000 in
theorem lturns_any (vk vb vs : Value) (f : FunV) (o : List Int) (ho : OrderOf f o) (w : World) (B : Nat) (hB : B ≤ w.heap.size) (hi : FunI w (· < B) vk vb vs f) (hok : FlowOk f) (h1 : 1 ≤ f.blocks.length) :
    Calls Try.prog 60 #[.agg #[vk, vb, .int .i64 f.params, .int .i64 f.result, vs]] w fun e w' => ∃ v, e = .returned v ∧ OwE w' w.heap.size v (turnsN f o) ∧ Below w.heap.size w w' := by
  have HPL := hide (fun (W : World) (hW : Below w.heap.size w W) => lplaces_any vk vb vs f o ho W B (by have := hW.size; omega) (hi.keep (up hW hB) (fun _ h => h)) hok h1)
  have HEX := hide (fun (W : World) (hW : Below w.heap.size w W) => fedges_any vk vb vs f W B (by have := hW.size; omega) (hi.keep (up hW hB) (fun _ h => h)) hok)
  have HON := hide (fun (hb gp : Nat) (Ae : Option Addr) (ce : Nat) (W : World) (hx : Box W hb #[.slice (some ⟨gp, 0, none⟩) f.blocks.length f.blocks.length] 27) (hP : PlaceW W gp f.blocks.length o) (hs : EdgS W W.heap.size Ae (edgesN f)) (hle : (edgesN f).length ≤ ce) (hlm : ce ≤ 9223372036854775807) => only_turns hb (turnB o) (edgesN f) Ae ce W (Nat.le_trans (edgesN_len hok) (by omega)) hs hle hlm (fun W' hW e he => by
    obtain ⟨x, v⟩ := e
    obtain ⟨a, rfl, ha, hv⟩ := edges_nat' he
    have hr := hok.2.2 a v hv
    obtain ⟨b, rfl⟩ : ∃ b : Nat, v = b := ⟨v.toNat, by omega⟩
    exact turn1_any hb gp f.blocks.length a b o W' (hx.below hW) (Box.below hP hW) ha (by omega) hok.1))
  have hel := edgesN_len hok
  have HTN := hide (show (edgesN f).filter (turnB o) = turnsN f o from rfl)
  obtain ⟨Ak, ck, rfl, hck, hmk⟩ := hi.1.open'
  obtain ⟨Ab, cb, rfl, hcb, hmb⟩ := hi.2.1.open'
  obtain ⟨As, cs, rfl, hcs, hms⟩ := hi.2.2.1.open'
  obtain ⟨es, hes⟩ : ∃ es, edgesN f = es := ⟨_, rfl⟩
  rw [hes] at HEX HON HTN hel
  obtain ⟨ne, hne⟩ : ∃ n, es.length = n := ⟨_, rfl⟩
  have HNE := hide hne
  rw [hne] at hel
  generalize f.kinds.length = lk, f.base.length = lb, f.blocks.length = ls, f.params = fp, f.result = fr at *
  clear hi hok hes hne ho
  go_enter Try.func60, Try.ntmps60
  go_upto_region 1 with (fail)
  obtain ⟨w1, hw1⟩ : ∃ w1, w1 = w.alloc (.cells #[.slice Ak lk ck, .slice Ab lb cb, .int .i64 fp, .int .i64 fr, .slice As ls cs] 30) := ⟨_, rfl⟩
  obtain ⟨h5, hh5⟩ : ∃ h5, w.heap.size = h5 := ⟨_, rfl⟩
  have HX1 := hide (show Box w1 h5 #[.slice Ak lk ck, .slice Ab lb cb, .int .i64 fp, .int .i64 fr, .slice As ls cs] 30 by rw [hw1, ← hh5]; exact Box.new w _ _)
  have HB1 := hide (show Below w.heap.size w w1 by rw [hw1]; exact alloc1 w _)
  have HK1 := hide (fun (W : World) (hW : Below w1.heap.size w1 W) => And.intro ((HX1.out.below hW).cell 0 (v := .slice Ak lk ck) rfl).1 (And.intro ((HX1.out.below hW).cell 1 (v := .slice Ab lb cb) rfl).1 (And.intro ((HX1.out.below hW).cell 2 (v := .int .i64 fp) rfl).1 (And.intro ((HX1.out.below hW).cell 3 (v := .int .i64 fr) rfl).1 ((HX1.out.below hW).cell 4 (v := .slice As ls cs) rfl).1))))
  have HUP := hide (fun (W : World) (hW : Below w1.heap.size w1 W) => HB1.out.trans (hW.mono HB1.out.size))
  have l1 := HX1.out.lt
  have hw1s := HB1.out.size
  rw [← hw1, hh5]
  clear hw1 hh5
  obtain ⟨c0, c1, c2, c3, c4⟩ := HK1.out w1 (Below.refl _ _)
  go_upto_region 2 with (go_at_call 74; refine (HPL.out w1 HB1.out).mono ?_; rintro e w2 ⟨gp, rfl, hP2, hgp, hb2⟩; have HP2 := hide hP2; have hz2 := hb2.size; have HC2 := hide hb2; clear hP2 hb2)
  obtain ⟨w3, hw3⟩ : ∃ w3, w3 = w2.alloc (.cells #[.slice (some ⟨gp, 0, none⟩) ls ls] 27) := ⟨_, rfl⟩
  obtain ⟨hb, hhb⟩ : ∃ hb, w2.heap.size = hb := ⟨_, rfl⟩
  have HX3 := hide (show Box w3 hb #[.slice (some ⟨gp, 0, none⟩) ls ls] 27 by rw [hw3, ← hhb]; exact Box.new w2 _ _)
  have HP3 := hide (show PlaceW w3 gp ls o by rw [hw3]; exact Box.alloc HP2.out _)
  have HC3 := hide (show Below w1.heap.size w1 w3 by rw [hw3]; exact HC2.out.alloc HC2.out.size _)
  rw [← hw3, hhb]
  clear hw3 hhb c0 c1 c2 c3 c4
  obtain ⟨c0, c1, c2, c3, c4⟩ := HK1.out w3 HC3.out
  have l3 : h5 < w3.heap.size := by have := HC3.out.size; omega
  go_wp2_with (first
    | (go_at_call 76; refine (HO4.out).mono ?_; rintro e w5 ⟨v5, rfl, ho5, hb5⟩)
    | (go_at_call 35; refine (HEX.out w3 (HUP.out w3 HC3.out)).mono ?_; rintro e w4 ⟨v4, rfl, ho4, hb4⟩; obtain ⟨A4, k4, hv4, hle4, hme4, hs4⟩ := ho4.sl; have HO4 := hide (HON.out hb gp A4 k4 w4 (HX3.out.below hb4) (Box.below HP3.out hb4) hs4 hle4 (by have := hme4; simp only [maxLen] at this; omega)); rw [HNE.out] at HO4; rw [HNE.out] at hv4; have HC4 := hide (HC3.out.trans (hb4.mono HC3.out.size)); subst hv4; clear hb4 ho4 hs4 hle4 hme4))
  go_ret
  exact ⟨v5, rfl, by rw [← HTN.out]; exact ho5.lower (by have := HUP.out w4 HC4.out; exact this.size), (HUP.out w4 HC4.out).trans (hb5.mono (HUP.out w4 HC4.out).size)⟩
end Go.Proofs.Ytnoknodijombpaa

/- Layer 14, the mathematics: what Lay makes: polls ahead of the last instruction of each block from which an edge turns back. No condition. -/
set_option linter.unusedSimpArgs false
set_option linter.unusedVariables false
namespace Go.Proofs.Ytnoknodijombpaa
open Go.RowKit

def pollI : InsV := ⟨24, 0, 0, 0, 0, 0, []⟩
def pollB (l : List InsV) : List InsV := l.take (l.length - 1) ++ [pollI] ++ l.drop (l.length - 1)
def turnsAt (ts : List (Int × Int)) (b : Nat) : Bool := ts.any (fun e => decide (e.1 = (b : Int)))
def layTo (bs : List (List InsV)) (T : Nat → Bool) (k : Nat) : List (List InsV) := bs.mapIdx (fun b l => if b < k ∧ T b = true then pollB l else l)
theorem pollB_len {l : List InsV} (h : 1 ≤ l.length) : (pollB l).length = l.length + 1 := by
  unfold pollB
  simp
  omega
theorem layTo_len (bs : List (List InsV)) (T : Nat → Bool) (k : Nat) : (layTo bs T k).length = bs.length := by unfold layTo; rw [List.length_mapIdx]
theorem layTo_at (bs : List (List InsV)) (T : Nat → Bool) (k b : Nat) : (layTo bs T k)[b]? = (bs[b]?).map (fun l => if b < k ∧ T b = true then pollB l else l) := by
  unfold layTo
  rw [List.getElem?_mapIdx]
theorem layTo_zero (bs : List (List InsV)) (T : Nat → Bool) : layTo bs T 0 = bs := by
  refine List.ext_getElem? fun b => ?_
  rw [layTo_at]
  cases bs[b]? <;> simp
theorem layTo_no {bs : List (List InsV)} {T : Nat → Bool} {k : Nat} (h : T k = false) : layTo bs T (k + 1) = layTo bs T k := by
  refine List.ext_getElem? fun b => ?_
  rw [layTo_at, layTo_at]
  congr 1
  funext l
  by_cases hb : b = k
  · subst hb
    simp [h]
  · have : (b < k + 1) ↔ (b < k) := by omega
    simp only [this]
theorem layTo_yes {bs : List (List InsV)} {T : Nat → Bool} {k : Nat} {l : List InsV} (h : T k = true) (hl : bs[k]? = some l) : layTo bs T (k + 1) = (layTo bs T k).set k (pollB l) := by
  have hk := (List.getElem?_eq_some_iff.1 hl).1
  refine List.ext_getElem? fun b => ?_
  rw [layTo_at, List.getElem?_set, layTo_len, layTo_at]
  by_cases hb : k = b
  · subst hb
    rw [if_pos rfl, if_pos hk, hl]
    simp [h]
  · rw [if_neg hb]
    congr 1
    funext l
    have : (b < k + 1) ↔ (b < k) := by omega
    simp only [this]
theorem layTo_old {bs : List (List InsV)} {T : Nat → Bool} {k : Nat} {l : List InsV} (hl : bs[k]? = some l) : (layTo bs T k)[k]? = some l := by
  rw [layTo_at, hl]
  simp
/-- The order of a walk, as a value. -/
noncomputable def ordN (f : FunV) : List Int := Classical.epsilon (fun o => OrderOf f o)
theorem ordN_of {f : FunV} {o : List Int} (h : OrderOf f o) : OrderOf f (ordN f) := Classical.epsilon_spec (p := fun o => OrderOf f o) ⟨o, h⟩
theorem ordN_eq {f : FunV} {o : List Int} (h : OrderOf f o) : ordN f = o := (ordN_of h).one h
noncomputable def turnT (f : FunV) : Nat → Bool := turnsAt (turnsN f (ordN f))
noncomputable def layBs (f : FunV) : List (List InsV) := layTo (splitF f).blocks (turnT (splitF f)) (splitF f).blocks.length
noncomputable def layF (f : FunV) : FunV := { splitF f with blocks := layBs f }
noncomputable def fitsL (f : FunV) : Bool := fitsB f && (layBs f).all (fun l => decide (l.length ≤ 40))
theorem turnsAt_snoc {ts : List (Int × Int)} {e : Int × Int} (b : Nat) : turnsAt (ts ++ [e]) b = (turnsAt ts b || decide (e.1 = (b : Int))) := by
  unfold turnsAt
  rw [List.any_append]
  simp
end Go.Proofs.Ytnoknodijombpaa
