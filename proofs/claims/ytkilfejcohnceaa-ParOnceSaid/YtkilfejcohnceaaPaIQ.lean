/- Layer 17, the program: Play. Condition: no more than 1000 moves, locations, numbers. -/
import Derived.Test.YtkilfejcohnceaaPaIR
import Derived.Sort.CutIn
import Derived.Laws.CopyRow
import Derived.Laws.IdiomCopy
set_option linter.unusedSimpArgs false
set_option linter.unusedVariables false
namespace Go.Proofs.Ytkilfejcohnceaa
open Go.RowKit Go.Shelf Go.Maps

attribute [local go_sem] Oper.semAt_some
theorem intsA_take (m n : Nat) (has : List Int) (hm : m = min has.length n) : (intsA (List.replicate n 0)).toList.take 0 ++ (has.take m).map (Value.int .i64) ++ (intsA (List.replicate n 0)).toList.drop (0 + ((has.take m).map (Value.int .i64)).length) = (intsA (toldL n has)).toList := by
  have hl : (has.take m).length = m := by rw [List.length_take]; omega
  unfold intsA toldL
  simp only [List.toList_toArray, List.take_zero, List.nil_append, List.length_map, hl, Nat.zero_add]
  refine List.ext_getElem? fun j => ?_
  by_cases hj : j < m
  · have h1 : j < has.length := by omega
    have h2 : j < n := by omega
    rw [List.getElem?_append_left (by rw [List.length_map, hl]; exact hj), List.getElem?_map, List.getElem?_take, if_pos hj, List.getElem?_map, List.getElem?_map, List.getElem?_range h2]
    simp [List.getD, h1]
  · rw [List.getElem?_append_right (by rw [List.length_map, hl]; omega), List.length_map, hl, List.getElem?_drop, List.getElem?_map, List.getElem?_map, List.getElem?_map]
    by_cases h2 : j < n
    · rw [List.getElem?_range h2, show m + (j - m) = j by omega, List.getElem?_replicate, if_pos h2]
      have h3 : has.length ≤ j := by omega
      simp [List.getD, h3]
    · rw [show m + (j - m) = j by omega, List.getElem?_replicate, if_neg h2, List.getElem?_eq_none (by simp; omega)]
      rfl
/-- copy of numbers into a new row of noughts. -/
theorem run_copy17 (w : World) (ty : TypeId) (g n c m ch : Nat) (A : Option Addr) (has : List Int) (hh : IntsV w (· < w.heap.size) (.slice A m ch) has) (hm : has.length = m) (hb : Box w g (intsA (List.replicate n 0)) 3) :
    ∃ w', (Builtin.copy_ #[33, 33] ty #[.slice (some ⟨g, 0, none⟩) n c, .slice A m ch]).run Try.prog w = .ok (goInt ((min m n : Nat) : Int)) w' ∧ Box w' g (intsA (toldL n has)) 3 ∧ w.grownBy w' (some g) := by
  have hz : (Try.prog.info? 3).map (·.size) = some 1 := by kernel_rfl
  by_cases h0 : min m n = 0
  · refine ⟨w, ?_, ?_, World.grownBy.refl _ _⟩
    · rw [h0]
      exact run_copy_none (P := Try.prog) w _ _ ty 3 _ _ n c m ch Try.underlying33 hz h0
    · have t := intsA_take 0 n has (by rw [hm]; omega)
      have e : intsA (toldL n has) = intsA (List.replicate n 0) := by
        apply Array.ext'
        rw [← t]
        simp
      rw [e]
      exact hb
  · obtain ⟨b, o, rfl, hbl, hc⟩ : ∃ b o, A = some ⟨b, o, none⟩ ∧ b < w.heap.size ∧ ∀ (j : Nat) (x : Int), has[j]? = some x → IntC w b (o + j * 1) x := by
      obtain ⟨A', c', e, -, -, h3⟩ := hh
      injection e with eA _ _
      subst eA
      exact h3 (by omega)
    have hlt : ((has.take (min m n)).map (Value.int .i64)).length = min m n := by rw [List.length_map, List.length_take]; omega
    have hr := run_copy_row (P := Try.prog) w 33 33 ty 3 g 0 n c ⟨b, o, none⟩ m ch (intsA (List.replicate n 0)) 3 ((has.take (min m n)).map (Value.int .i64)) Try.underlying33 hz hb hlt (fun j v hv => by
      rw [Addr.add_lit]
      rw [List.getElem?_map, List.getElem?_take] at hv
      split at hv
      · cases hx : has[j]? with
        | none => rw [hx] at hv; cases hv
        | some x =>
          rw [hx] at hv
          injection hv with hv
          have := (hc j x hx).1
          rw [Nat.mul_one] at this
          rw [← hv]
          exact this
      · cases hv) (by rw [hlt]; simp [intsA]; omega) (fun v hv => by
      obtain ⟨x, -, rfl⟩ := List.mem_map.1 hv
      rfl)
    rw [hlt] at hr
    refine ⟨_, hr, ?_, ⟨rfl, rfl, rfl, by simp, fun j _ hj => setRow_other w g j _ (fun e => hj (by simp [e]))⟩⟩
    have t := intsA_take (min m n) n has (by rw [hm])
    rw [hlt] at t
    have h2 := setRow_heap w g (intsA (List.replicate n 0)) (intsA (toldL n has)) 3 (0, 0) hb
    rw [show (intsA (toldL n has)) = ((intsA (toldL n has)).toList).toArray from by simp, ← t] at h2
    unfold Box
    rw [show (intsA (toldL n has)) = ((intsA (toldL n has)).toList).toArray from by simp, ← t]
    exact h2
theorem Box.own17 {W W' : World} {row : Option Nat} {B : Nat} {cs : Array Value} {T : TypeId} (h : Box W B cs T) (hg : W.grownBy W' row) (hr : ∀ r, row = some r → ∃ o : Obj, W.heap[r]? = some o ∧ o.isCells = false) : Box W' B cs T :=
  (hg.block B h.lt (fun e => by obtain ⟨o, ho, hc⟩ := hr B e.symm; rw [show W.heap[B]? = _ from h] at ho; cases ho; cases hc)).trans h
theorem KpB.below17 {h Bs : Nat} {t : TypeId} {vs : Value} {W W' : World} (hb : Below W.heap.size W W') (hh : h ≤ W.heap.size) : KpB h Bs t vs W W' := ⟨hb.mono hh, fun k => (hb.block Bs k.lt).trans k⟩
theorem lcs_range17 {w : World} {S : Nat → Prop} {v : Value} {ls : List LcV} (h : LcsV w S v ls) : ∀ x ∈ ls, lcR x := fun x hx => by
  obtain ⟨A, c, rfl, -, -⟩ := h.open'
  obtain ⟨k, hk⟩ := List.getElem?_of_mem hx
  obtain ⟨b, o, -, -, -, hr⟩ := h.get hk
  exact hr
theorem told_R {n : Nat} {has : List Int} (h : ∀ z ∈ has, i64R z) : ∀ j, i64R ((toldL n has).getD j 0) := fun j => by
  unfold toldL
  rw [List.getD_eq_getElem?_getD, List.getElem?_map]
  cases e : (List.range n)[j]? with
  | none => exact (show i64R 0 from ⟨by omega, by omega⟩)
  | some i =>
    simp only [Option.map_some, Option.getD_some]
    rw [List.getD_eq_getElem?_getD]
    cases e2 : has[i]? with
    | none => exact (show i64R 0 from ⟨by omega, by omega⟩)
    | some z => exact h z (List.mem_of_getElem? e2)
theorem told_at {n : Nat} {has : List Int} {j : Nat} (hj : j < n) : (toldL n has)[j]? = some ((toldL n has).getD j 0) := by
  rw [List.getD_eq_getElem?_getD]
  have : j < (toldL n has).length := by unfold toldL; simp; exact hj
  rw [List.getElem?_eq_getElem this]
  rfl
theorem st0_R {ats : List LcV} {tl : List Int} (h : ∀ j, i64R (tl.getD j 0)) (x : LcV) : i64R (st0 ats tl x) := by
  unfold st0
  split
  · exact h _
  · exact (show i64R 0 from ⟨by omega, by omega⟩)
theorem seqE_R : ∀ {l : List MvV} {s : LcV → Int}, (∀ x, i64R (s x)) → ∀ x, i64R (seqE l s x)
  | [], _, h => h
  | m :: l, s, h => seqE_R (l := l) fun x => by
    unfold updL
    split
    · exact h _
    · exact h x
theorem seqE_snoc {l : List MvV} {k : Nat} {y : MvV} (h : l[k]? = some y) (s : LcV → Int) : seqE (l.take (k + 1)) s = updL (seqE (l.take k) s) y.t (seqE (l.take k) s y.f) := by
  rw [List.take_add_one, h, Option.toList_some, seqE_app]
  rfl
def toldQ (ats : List LcV) (tl : List Int) (now : LcV → Int) (left : Lit → Bool) : List Int :=
  (List.range ats.length).map (fun i => if idxL ats (lcAt ats i) = i ∧ left (litL (lcAt ats i)) = false then now (lcAt ats i) else tl.getD i 0)
theorem toldQ_start {ats : List LcV} {tl : List Int} {now : LcV → Int} {left : Lit → Bool} (hl : tl.length = ats.length) (h : ∀ i, i < ats.length → left (litL (lcAt ats i)) = true) : toldQ ats tl now left = tl := by
  refine List.ext_getElem? fun j => ?_
  unfold toldQ
  rw [List.getElem?_map]
  by_cases hj : j < ats.length
  · rw [List.getElem?_range hj, Option.map_some, if_neg (by rw [h j hj]; simp), List.getD_eq_getElem?_getD, List.getElem?_eq_getElem (by omega : j < tl.length)]
    rfl
  · rw [List.getElem?_eq_none (by simp; omega), List.getElem?_eq_none (by omega)]
    rfl
theorem sameKey_ne {x y : LcV} (hx : lcR x) (hy : lcR y) : (litL x).sameKey (litL y) = decide (x = y) := by
  rw [Bool.eq_iff_iff]
  simp only [decide_eq_true_eq]
  constructor
  · intro h
    unfold litL at h
    simp only [Lit.sameKey, beq_iff_eq] at h
    exact litL_inj hx hy (by unfold litL; rw [h])
  · rintro rfl
    unfold litL
    simp [Lit.sameKey]
theorem toldQ_step {ats : List LcV} {tl : List Int} {now : LcV → Int} {left : Lit → Bool} {x : LcV} (hR : ∀ y ∈ ats, lcR y) (hx : lcR x) (hi : idxL ats x < ats.length) : (toldQ ats tl now left).set (idxL ats x) (now x) = toldQ ats tl now (fun z => left z && !z.sameKey (litL x)) := by
  refine List.ext_getElem? fun j => ?_
  rw [List.getElem?_set]
  have hln : (toldQ ats tl now left).length = ats.length := by simp [toldQ]
  by_cases hj : j < ats.length
  · have hRj : lcR (lcAt ats j) := hR _ (by rw [lcAt_of (List.getElem?_eq_getElem hj)]; exact List.getElem_mem hj)
    by_cases e : idxL ats x = j
    · rw [if_pos e, if_pos (by omega)]
      unfold toldQ
      rw [List.getElem?_map, List.getElem?_range hj, Option.map_some]
      have ha : lcAt ats j = x := by rw [← e]; exact idx_at17 hi
      rw [ha, if_pos ⟨e, by show (left (litL x) && !(litL x).sameKey (litL x)) = false; rw [sameKey_ne hx hx]; simp⟩]
    · rw [if_neg e]
      unfold toldQ
      rw [List.getElem?_map, List.getElem?_map, List.getElem?_range hj, Option.map_some, Option.map_some]
      by_cases e2 : idxL ats (lcAt ats j) = j
      · have hne : lcAt ats j ≠ x := fun h => e (by rw [← h]; exact e2)
        have e3 : (left (litL (lcAt ats j)) && !(litL (lcAt ats j)).sameKey (litL x)) = left (litL (lcAt ats j)) := by
          rw [sameKey_ne hRj hx, decide_eq_false hne]
          simp
        simp only [e3]
      · rw [if_neg (fun h => e2 h.1), if_neg (fun h => e2 h.1)]
  · rw [List.getElem?_eq_none (by simp [toldQ]; omega)]
    split
    · rw [if_neg (by omega), List.getElem?_eq_none (by simp [toldQ]; omega)]
    · rw [List.getElem?_eq_none (by simp [toldQ]; omega)]
theorem toldQ_end {ats : List LcV} {l : List MvV} {has : List Int} {left : Lit → Bool} (h : ∀ k, left k = false) : toldQ ats (toldL ats.length has) (seqE l (st0 ats (toldL ats.length has))) left = playL l ats has := by
  unfold toldQ playL
  refine List.map_congr_left fun i _ => ?_
  by_cases e : idxL ats (lcAt ats i) = i
  · rw [if_pos ⟨e, h _⟩, if_pos e]
  · rw [if_neg (fun k => e k.1), if_neg e]
/-- Play's own blocks under way. -/
structure PlS (w : World) (gt ct gf gn cf cn Bs n : Nat) (vs : Value) (tl : List Int) (m1 m2 : Nat) (T : LcV → Int) (F : LcV → Option Nat) (W : World) : Prop where
  now : MapL W gn m1 T
  fir : ∃ D, FirM W gf m2 F D
  told : Box W gt (intsA tl) 3
  c1 : Box W ct #[.slice (some ⟨gt, 0, none⟩) n n] 33
  c2 : Box W cf #[.map (some gf)] 45
  c3 : Box W cn #[.map (some gn)] 45
  bs : Box W Bs #[vs] 32
  bl : Below w.heap.size w W
theorem PlS.blk {w : World} {gt ct gf gn cf cn Bs n : Nat} {vs : Value} {tl : List Int} {m1 m2 : Nat} {T : LcV → Int} {F : LcV → Option Nat} {W W' : World} (h : PlS w gt ct gf gn cf cn Bs n vs tl m1 m2 T F W) (hb : ∀ b, (b = gt ∨ b = ct ∨ b = gf ∨ b = gn ∨ b = cf ∨ b = cn ∨ b = Bs) → W'.heap[b]? = W.heap[b]?) (hl : Below w.heap.size w W') : PlS w gt ct gf gn cf cn Bs n vs tl m1 m2 T F W' :=
  ⟨h.now.kept (hb gn (by simp)), h.fir.imp fun D hD => hD.kept (hb gf (by simp)), (hb gt (by simp)).trans h.told, (hb ct (by simp)).trans h.c1, (hb cf (by simp)).trans h.c2, (hb cn (by simp)).trans h.c3, (hb Bs (by simp)).trans h.bs, hl⟩
theorem PlS.below {w : World} {gt ct gf gn cf cn Bs n : Nat} {vs : Value} {tl : List Int} {m1 m2 : Nat} {T : LcV → Int} {F : LcV → Option Nat} {W W' : World} (h : PlS w gt ct gf gn cf cn Bs n vs tl m1 m2 T F W) (hb : Below W.heap.size W W') : PlS w gt ct gf gn cf cn Bs n vs tl m1 m2 T F W' :=
  h.blk (fun b hb' => hb.block b (by
    rcases hb' with rfl | rfl | rfl | rfl | rfl | rfl | rfl
    · exact h.told.lt
    · exact h.c1.lt
    · obtain ⟨D, hD⟩ := h.fir; exact hD.lt
    · exact h.now.lt
    · exact h.c2.lt
    · exact h.c3.lt
    · exact h.bs.lt)) (h.bl.trans (hb.mono h.bl.size))
theorem PlS.own {w : World} {gt ct gf gn cf cn Bs n B : Nat} {vs : Value} {tl : List Int} {m1 m2 : Nat} {T : LcV → Int} {F : LcV → Option Nat} {W W' : World} {row : Option Nat} (h : PlS w gt ct gf gn cf cn Bs n vs tl m1 m2 T F W) (hg : W.grownBy W' row) (hr : ∀ r, row = some r → B ≤ r ∧ ∃ o : Obj, W.heap[r]? = some o ∧ o.isCells = false) (h1 : gf < B) (h2 : gn < B) (hw : w.heap.size ≤ B) : PlS w gt ct gf gn cf cn Bs n vs tl m1 m2 T F W' := by
  have bx : ∀ {b : Nat} {c : Array Value} {T' : TypeId}, Box W b c T' → W'.heap[b]? = W.heap[b]? := fun {b c T'} hb => hg.block b hb.lt (fun e => by
    obtain ⟨-, o, ho, hc⟩ := hr b e.symm
    rw [show W.heap[b]? = _ from hb] at ho
    cases ho
    cases hc)
  refine h.blk (fun b hb' => ?_) ⟨hg.os.trans h.bl.os, hg.tape.trans h.bl.tape, hg.output.trans h.bl.output, Nat.le_trans h.bl.size hg.size, fun k hk => (hg.block k (Nat.lt_of_lt_of_le hk h.bl.size) (fun e => by have := (hr k e.symm).1; omega)).trans (h.bl.block k hk)⟩
  rcases hb' with rfl | rfl | rfl | rfl | rfl | rfl | rfl
  · exact bx h.told
  · exact bx h.c1
  · obtain ⟨D, hD⟩ := h.fir
    exact hg.block _ hD.lt (fun e => by have := (hr _ e.symm).1; omega)
  · exact hg.block _ h.now.lt (fun e => by have := (hr _ e.symm).1; omega)
  · exact bx h.c2
  · exact bx h.c3
  · exact bx h.bs
theorem PlS.apart {w : World} {gt ct gf gn cf cn Bs n : Nat} {vs : Value} {tl : List Int} {m1 m2 : Nat} {T : LcV → Int} {F : LcV → Option Nat} {W : World} (h : PlS w gt ct gf gn cf cn Bs n vs tl m1 m2 T F W) (g : Nat) (hg : g = gf ∨ g = gn) : gt ≠ g ∧ ct ≠ g ∧ cf ≠ g ∧ cn ≠ g ∧ Bs ≠ g := by
  have key : ∀ {b : Nat} {c : Array Value} {T' : TypeId}, Box W b c T' → b ≠ g := fun {b c T'} hb e => by
    rw [e] at hb
    rcases hg with rfl | rfl
    · obtain ⟨D, hD⟩ := h.fir
      exact hD.noBox hb
    · exact h.now.noBox hb
  exact ⟨key h.told, key h.c1, key h.c2, key h.c3, key h.bs⟩
set_option maxHeartbeats 4000000 in
set_option maxRecDepth 100000 in
theorem iplay_any (v va vh : Value) (l : List MvV) (ats : List LcV) (has : List Int) (w : World) (hl : MvsV w (· < w.heap.size) v l) (ha : LcsV w (· < w.heap.size) va ats) (hh : IntsV w (· < w.heap.size) vh has) (hml : l.length ≤ 1000) (hma : ats.length ≤ 1000) (hmh : has.length ≤ 1000) :
    Calls Try.prog 15 #[v, va, vh] w fun e w' => ∃ g, e = .returned (.slice (some ⟨g, 0, none⟩) ats.length ats.length) ∧ Box w' g (intsA (playL l ats has)) 3 ∧ w.heap.size ≤ g ∧ Below w.heap.size w w' := by
  have hmm := @run_makeMap Try.prog
  have hmx : Try.prog.follows .mixedOrders = true := by kernel_rfl
  obtain ⟨A, c, rfl, hc, hcm⟩ := hl.open'
  obtain ⟨Aa, ca, rfl, hca, hcam⟩ := ha.open'
  obtain ⟨Ah, ch, rfl, hch, hchm⟩ := hh.open'
  obtain ⟨nl, hnl⟩ := letl l.length
  obtain ⟨n, hn⟩ := letl ats.length
  obtain ⟨nh, hnh⟩ := letl has.length
  rw [hnl] at hl hc hml ⊢
  rw [hn] at ha hca hma ⊢
  rw [hnh] at hh hch hmh ⊢
  have hmk := fun (W : World) => mkz_run 33 3 Try.underlying33 info_i64 (by omega) n hma W
  refine (callsIn_wide (n := 9)).1 ?_
  refine callsIn_of_wp_marks Try.func15 rfl trivial ?_ rfl
  simp only [Try.ntmps15, List.size_toArray, List.length_cons, List.length_nil, Nat.reduceAdd, Nat.reduceSub, Array.replicate_succ, Array.replicate_zero, List.push_toArray, List.append_toArray, List.nil_append, List.cons_append]
  gi_upto_region 2 with (fail)
  have hmc : madeCells #[Value.int .i64 0] n = intsA (List.replicate n 0) := by
    have t := madeCells_int16 n
    rw [Nat.mul_one] at t
    exact t
  rw [hmc]
  obtain ⟨w2, hw2⟩ := letr ((w.alloc (.cells (intsA (List.replicate n 0)) 3)).alloc (.cells #[.slice (some ⟨w.heap.size, 0, none⟩) n n] 33))
  obtain ⟨gt, hgt⟩ := letl w.heap.size
  have HX0 := lY2 hw2 hgt
  have HX1 := hide (show Box w2 (gt + 1) #[.slice (some ⟨gt, 0, none⟩) n n] 33 by have t := (lX2 hw2 hgt).out; rw [hgt] at t; exact t)
  have HB2 := lB2 hw2
  have HGT := hide hgt
  obtain ⟨ct, hct⟩ := letl (gt + 1)
  rw [hct] at HX1
  have HCT := hide hct
  rw [← hw2, hgt, hct]
  clear hw2 hgt hct hmk hmc
  have x1 := (HX1.out.cell 0 (v := .slice (some ⟨gt, 0, none⟩) n n) rfl).1
  have l1 := HX1.out.lt
  obtain ⟨w3, hcp, htb, htg⟩ := run_copy17 w2 3 gt n n nh ch Ah has (hh.keep (fun b o hb => HB2.out.cell (p := ⟨b, o, none⟩) hb) (fun b hb => Nat.lt_of_lt_of_le hb HB2.out.size)) hnh HX0.out
  obtain ⟨mn, hmn⟩ := letl (min nh n)
  rw [hmn] at hcp
  simp only [goInt] at hcp
  gi_upto_region 3 with (fail)
  have HXT := hide htb
  have HX13 := hide (show Box w3 ct #[.slice (some ⟨gt, 0, none⟩) n n] 33 from (htg.block ct l1 (fun e => by injection e with e; have := HCT.out; omega)).trans HX1.out)
  have HB3 := hide (show Below w.heap.size w w3 from HB2.out.grown htg HB2.out.size (fun k hk => by injection hk with hk; have := HGT.out; omega))
  clear hcp htb htg x1 l1 hmn HX0 HX1 HB2
  gi_upto_region 4 with (fail)
  obtain ⟨w4, hw4⟩ := letr ((((w3.alloc (.map #[] 0)).alloc (.map #[] 0)).alloc (.cells #[.map (some w3.heap.size)] 45)).alloc (.cells #[.map (some (w3.heap.size + 1))] 45))
  obtain ⟨gf, hgf⟩ := letl w3.heap.size
  rw [← hw4, hgf]
  obtain ⟨gn, hgn⟩ := letl (gf + 1)
  obtain ⟨cf, hcf⟩ := letl (gn + 1)
  obtain ⟨cn, hcn⟩ := letl (cf + 1)
  rw [hgn, hcf, hcn]
  have HS4 := hide (show w4.heap.size = cn + 1 from by rw [hw4]; simp only [World.size_alloc]; omega)
  have HP4 := hide (show PlS w gt ct gf gn cf cn (cn + 1) n (.slice Aa n ca) (toldL n has) 0 0 (fun _ => 0) (fun _ => none) (w4.alloc (.cells #[.slice Aa n ca] 32)) from by
    have s1 : (w3.alloc (.map #[] 0)).heap.size = gn := by simp only [World.size_alloc]; omega
    have s2 : ((w3.alloc (.map #[] 0)).alloc (.map #[] 0)).heap.size = cf := by simp only [World.size_alloc]; omega
    have s3 : (((w3.alloc (.map #[] 0)).alloc (.map #[] 0)).alloc (.cells #[.map (some w3.heap.size)] 45)).heap.size = cn := by simp only [World.size_alloc]; omega
    have k4 : Below w3.heap.size w3 w4 := by
      rw [hw4]
      exact ((alloc2 w3 _ _).alloc (by simp only [World.size_alloc]; omega) _).alloc (by simp only [World.size_alloc]; omega) _
    have k5 : Below w4.heap.size w4 (w4.alloc (.cells #[.slice Aa n ca] 32)) := alloc1 w4 _
    have k45 := k4.trans (k5.mono k4.size)
    have e1 := FirM.start w3
    rw [hgf] at e1
    have e2 := MapL.start (w3.alloc (.map #[] 0))
    rw [s1] at e2
    have e3 := Box.new ((w3.alloc (.map #[] 0)).alloc (.map #[] 0)) #[.map (some w3.heap.size)] 45
    rw [s2, hgf] at e3
    have e4 := Box.new (((w3.alloc (.map #[] 0)).alloc (.map #[] 0)).alloc (.cells #[.map (some w3.heap.size)] 45)) #[.map (some (w3.heap.size + 1))] 45
    rw [s3, hgf, hgn] at e4
    have e5 := Box.new w4 #[.slice Aa n ca] 32
    rw [HS4.out] at e5
    have t1 : Below (w3.alloc (.map #[] 0)).heap.size (w3.alloc (.map #[] 0)) w4 := by rw [hw4]; exact lB3 (w := w3.alloc (.map #[] 0)) rfl
    have t2 : Below ((w3.alloc (.map #[] 0)).alloc (.map #[] 0)).heap.size ((w3.alloc (.map #[] 0)).alloc (.map #[] 0)) w4 := by rw [hw4]; exact alloc2 _ _ _
    refine ⟨(e2.below t2).below k5, ⟨_, (e1.kept (t1.block gf e1.lt)).kept (k5.block gf ?_)⟩, (k45.block gt HXT.out.lt).trans HXT.out, (k45.block ct HX13.out.lt).trans HX13.out, ?_, ?_, e5, HB3.out.trans (k45.mono HB3.out.size)⟩
    · have := HS4.out
      omega
    · have t3 : Box w4 cf #[.map (some gf)] 45 := by
        rw [hw4, hgf]
        exact e3.alloc _
      exact t3.below k5
    · have t3 : Box w4 cn #[.map (some gn)] 45 := by
        rw [hw4, hgf, hgn]
        exact e4
      exact t3.below k5)
  have HGE := hide (show w.heap.size ≤ gt ∧ gt < gf ∧ ct < gf ∧ gf < gn ∧ gn < cf ∧ cf < cn from ⟨by have := HGT.out; omega, by have := HXT.out.lt; omega, by have := HX13.out.lt; omega, by omega, by omega, by omega⟩)
  clear hw4 hgf hgn hcf hcn HXT HX13 HB3 hmm
  gi_wp2_with (refine ⟨trivial, ?_⟩; gi_at_call 27; refine (callsIn_wide.2 (ibackward_any Aa n ca _)).mono ?_; rintro e w' ⟨rfl, rfl⟩)
  rw [HS4.out]
  obtain ⟨W0, hW0⟩ := letl (w4.alloc (.cells #[.slice Aa n ca] 32))
  have HZ0 := hide (show W0.heap.size = cn + 2 from by rw [← hW0, World.size_alloc, HS4.out])
  rw [hW0] at HP4 ⊢
  obtain ⟨Bs, hBs⟩ := letl (cn + 1)
  rw [hBs] at HP4 ⊢
  have HBS2 := hide hBs
  have HGT2 := hide HCT.out
  have HW0 := hide (show Below w.heap.size w W0 from HP4.out.bl)
  obtain ⟨tl, htl⟩ := letl (toldL n has)
  have HTL := hide htl
  have HLR := hide (show ∀ x ∈ ats, lcR x from lcs_range17 ha)
  have HTR := hide (show ∀ j, i64R (tl.getD j 0) from by rw [← htl]; exact told_R hh.range)
  have HTA := hide (show ∀ j, j < n → tl[j]? = some (tl.getD j 0) from by rw [← htl]; exact fun j hj => told_at hj)
  rw [htl] at HP4
  refine wpIn_rangeFunc_ownH rfl (by omega) (gf := 36) (lb := #[.pointer (some ⟨Bs, 0, none⟩)]) rfl trivial (enters_of Try.func36 (by kernel_rfl) rfl)
    (iback_stops (9 - 1) Bs w.heap.size W0 Aa n ca ats (ha.keep (fun b o hb => HW0.out.cell (p := ⟨b, o, none⟩) hb) (fun b hb => hb)) hn (by omega) HW0.out.size (by omega) HP4.out.bs) KpB.t (KpB.b HW0.out.size (by have := HZ0.out; omega)) (Below.refl _ _) (fun _ => rfl)
    (fun pre W => PlS w gt ct gf gn cf cn Bs n (.slice Aa n ca) tl (2 * pre.length) pre.length (foldT tl (pre.map (fun (x : BkT17 ats) => x.1))) (foldF (pre.map (fun (x : BkT17 ats) => x.1))) W)
    (fun _ _ _ => False)
    (fun pre X Y row k hg hr => k.own hg hr (by have := HZ0.out; have := HGE.out; omega) (by have := HZ0.out; have := HGE.out; omega) HW0.out.size)
    (fun _ _ _ _ _ hs _ _ => hs)
    HP4.out
    (fun x a' W => ∃ Bx, Bs < Bx ∧ Box W Bx #[.int .i64 x.1.2.k, .int .i64 x.1.2.n] 24 ∧ a' = { tmps := #[.slice A nl c, .slice Aa n ca, .slice Ah nh ch, undef, undef, undef, .slice none 0 0, .pointer (some ⟨ct, 0, none⟩), .pointer (some ⟨cf, 0, none⟩), .pointer (some ⟨cn, 0, none⟩), .int .i64 ((x.1.1 : Nat) : Int), .pointer (some ⟨Bx, 0, none⟩), undef, undef, undef, undef, .slice Aa n ca, .int .i64 (n : Int), .slice (some ⟨gt, 0, none⟩) n n, .slice (some ⟨gt, 0, none⟩) n n, .slice Ah nh ch, .int .i64 (mn : Int), .map (some gf), .map (some gn), .slice Aa n ca, .func (.func 36) #[] #[.pointer (some ⟨Bs, 0, none⟩)], .int .i64 ((x.1.1 : Nat) : Int), .agg #[.int .i64 x.1.2.k, .int .i64 x.1.2.n], undef, undef, undef, undef, undef, undef, undef, undef, undef, undef, undef, undef, undef, undef, undef, undef, undef, undef, undef, undef, undef, undef, undef, undef, undef, undef, undef, undef, undef, undef, undef, undef, undef, undef, undef, undef, undef, undef, undef], defers := [] })
    (fun x a' _ X Y row hs hg hr => by obtain ⟨Bx, h1, h2, h3⟩ := hs; exact ⟨Bx, h1, h2.own17 hg (fun r e => (hr r e).2), h3⟩)
    ?assign ?body ?done ?stop
  case assign =>
    rintro l pre ⟨⟨j, y⟩, hx⟩ W K hP hK
    dsimp only [bkE17]
    gi_wp2
    exact hK _ _ ((KeepsOthers.alloc _ _).from _) (KpB.below17 (alloc1 W _) hP.bl.size) (hP.below (alloc1 W _)) ⟨W.heap.size, hP.bs.lt, Box.new W _ _, rfl⟩
  case body =>
    rintro l pre ⟨⟨j, ⟨yk, yn⟩⟩, hx⟩ a' W hl ⟨r, hr⟩ hP ⟨Bx, hBx, bX, rfl⟩ hlt
    have hP0 : PlS w gt ct gf gn cf cn Bs n (.slice Aa n ca) tl (2 * pre.length) pre.length (foldT tl (pre.map (fun (x : BkT17 ats) => x.1))) (foldF (pre.map (fun (x : BkT17 ats) => x.1))) W.drew := hP.blk (fun _ _ => rfl) hP.bl.drew
    have bX0 : Box W.drew Bx #[.int .i64 yk, .int .i64 yn] 24 := bX
    have hjn : j < n := by have := (List.getElem?_eq_some_iff.1 hx).1; omega
    have hyR : lcR ⟨yk, yn⟩ := HLR.out _ (List.mem_of_getElem? hx)
    obtain ⟨w9, hr9, hf9, hg9⟩ : ∃ w9, (Instr.mapUpdate 45 (.map (some gf)) (.agg #[.int .i64 yk, .int .i64 yn]) (.int .i64 (j : Int))).run Try.prog W.drew = .ok () w9 ∧ (∃ D', FirM w9 gf (pre.length + 1) (updO (foldF (pre.map (fun (x : BkT17 ats) => x.1))) ⟨yk, yn⟩ j) D') ∧ W.drew.grownBy w9 (some gf) := by
      obtain ⟨D, hD⟩ := hP0.fir
      obtain ⟨w', D', h1, h2, h3⟩ := hD.put hyR j (by omega) (by omega)
      exact ⟨w', h1, ⟨D', h2⟩, h3⟩
    obtain ⟨q1, q2, q3, q4, q5⟩ := hP0.apart gf (.inl rfl)
    have hXf : Bx ≠ gf := fun e => by
      obtain ⟨D, hD⟩ := hP0.fir
      rw [e] at bX0
      exact hD.noBox bX0
    have hXn : Bx ≠ gn := fun e => by
      rw [e] at bX0
      exact hP0.now.noBox bX0
    have k9 : ∀ {b : Nat} {cs : Array Value} {T : TypeId}, Box W.drew b cs T → b ≠ gf → Box w9 b cs T := fun hb hn => (hg9.block _ hb.lt (fun e => hn (by injection e with e))).trans hb
    have hM9 : MapL w9 gn (2 * pre.length) (foldT tl (pre.map (fun (x : BkT17 ats) => x.1))) := hP0.now.kept (hg9.block gn hP0.now.lt (fun e => by injection e with e; have := HGE.out; omega))
    obtain ⟨v0, st, w10, hr10, hM10, hg10, he10, -⟩ := hM9.entry hyR (by omega)
    have htr := HTR.out j
    have hta := HTA.out j hjn
    obtain ⟨tj, htj⟩ := letl (tl.getD j 0)
    have HTJ := hide htj
    rw [htj] at htr hta
    clear htj
    obtain ⟨w12, hr12, hM12, hg12, -⟩ := hM10.store he10 hyR htr (by omega)
    obtain ⟨d7, -⟩ := hP0.c1.cell 0 (v := .slice (some ⟨gt, 0, none⟩) n n) rfl
    obtain ⟨d8, -⟩ := hP0.c2.cell 0 (v := .map (some gf)) rfl
    obtain ⟨d9, -⟩ := hP0.c3.cell 0 (v := .map (some gn)) rfl
    obtain ⟨d10, -⟩ := bX0.cell 0 (v := .int .i64 yk) rfl
    obtain ⟨d11, -⟩ := bX0.cell 1 (v := .int .i64 yn) rfl
    obtain ⟨d12, -⟩ := hP0.told.it hta
    obtain ⟨r1, r2, r3, r4, r5⟩ := hP0.apart gn (.inr rfl)
    have HS0 := hide (show W.drew.cell? ⟨ct, 0, none⟩ = some (.slice (some ⟨gt, 0, none⟩) n n) ∧ W.drew.cell? ⟨cf, 0, none⟩ = some (.map (some gf)) ∧ W.drew.cell? ⟨cn, 0, none⟩ = some (.map (some gn)) ∧ W.drew.cell? ⟨Bx, 0, none⟩ = some (.int .i64 yk) ∧ W.drew.cell? ⟨Bx, 1, none⟩ = some (.int .i64 yn) ∧ W.drew.cell? ⟨gt, j, none⟩ = some (.int .i64 tj) ∧ ct < W.drew.heap.size ∧ cf < W.drew.heap.size ∧ cn < W.drew.heap.size ∧ Bx < W.drew.heap.size ∧ gt < W.drew.heap.size from ⟨d7, d8, d9, d10, d11, d12, hP0.c1.lt, hP0.c2.lt, hP0.c3.lt, bX0.lt, hP0.told.lt⟩)
    have k10 : ∀ {b : Nat} {cs : Array Value} {T : TypeId}, Box w9 b cs T → b ≠ gn → Box w10 b cs T := fun hb hn => (hg10.block _ hb.lt (fun e => hn (by injection e with e))).trans hb
    have HS9 := hide (show w9.cell? ⟨ct, 0, none⟩ = some (.slice (some ⟨gt, 0, none⟩) n n) ∧ w9.cell? ⟨cf, 0, none⟩ = some (.map (some gf)) ∧ w9.cell? ⟨cn, 0, none⟩ = some (.map (some gn)) ∧ w9.cell? ⟨Bx, 0, none⟩ = some (.int .i64 yk) ∧ w9.cell? ⟨Bx, 1, none⟩ = some (.int .i64 yn) ∧ w9.cell? ⟨gt, j, none⟩ = some (.int .i64 tj) ∧ ct < w9.heap.size ∧ cf < w9.heap.size ∧ cn < w9.heap.size ∧ Bx < w9.heap.size ∧ gt < w9.heap.size from ⟨((k9 hP0.c1 q2).cell 0 (v := .slice (some ⟨gt, 0, none⟩) n n) rfl).1, ((k9 hP0.c2 q3).cell 0 (v := .map (some gf)) rfl).1, ((k9 hP0.c3 q4).cell 0 (v := .map (some gn)) rfl).1, ((k9 bX0 hXf).cell 0 (v := .int .i64 yk) rfl).1, ((k9 bX0 hXf).cell 1 (v := .int .i64 yn) rfl).1, ((k9 hP0.told q1).it hta).1, (k9 hP0.c1 q2).lt, (k9 hP0.c2 q3).lt, (k9 hP0.c3 q4).lt, (k9 bX0 hXf).lt, (k9 hP0.told q1).lt⟩)
    have HS10 := hide (show w10.cell? ⟨ct, 0, none⟩ = some (.slice (some ⟨gt, 0, none⟩) n n) ∧ w10.cell? ⟨cf, 0, none⟩ = some (.map (some gf)) ∧ w10.cell? ⟨cn, 0, none⟩ = some (.map (some gn)) ∧ w10.cell? ⟨Bx, 0, none⟩ = some (.int .i64 yk) ∧ w10.cell? ⟨Bx, 1, none⟩ = some (.int .i64 yn) ∧ w10.cell? ⟨gt, j, none⟩ = some (.int .i64 tj) ∧ ct < w10.heap.size ∧ cf < w10.heap.size ∧ cn < w10.heap.size ∧ Bx < w10.heap.size ∧ gt < w10.heap.size from ⟨((k10 (k9 hP0.c1 q2) r2).cell 0 (v := .slice (some ⟨gt, 0, none⟩) n n) rfl).1, ((k10 (k9 hP0.c2 q3) r3).cell 0 (v := .map (some gf)) rfl).1, ((k10 (k9 hP0.c3 q4) r4).cell 0 (v := .map (some gn)) rfl).1, ((k10 (k9 bX0 hXf) hXn).cell 0 (v := .int .i64 yk) rfl).1, ((k10 (k9 bX0 hXf) hXn).cell 1 (v := .int .i64 yn) rfl).1, ((k10 (k9 hP0.told q1) r1).it hta).1, (k10 (k9 hP0.c1 q2) r2).lt, (k10 (k9 hP0.c2 q3) r3).lt, (k10 (k9 hP0.c3 q4) r4).lt, (k10 (k9 bX0 hXf) hXn).lt, (k10 (k9 hP0.told q1) r1).lt⟩)
    have hj0 : (0 : Int) ≤ (j : Int) := by omega
    have hj1 : (j : Int) < (n : Int) := by omega
    have HEND := hide (show ownPostG W0.heap.size (KpB w.heap.size Bs 32 (.slice Aa n ca)) (fun pre W => PlS w gt ct gf gn cf cn Bs n (.slice Aa n ca) tl (2 * pre.length) pre.length (foldT tl (pre.map (fun (x : BkT17 ats) => x.1))) (foldF (pre.map (fun (x : BkT17 ats) => x.1))) W) (fun _ _ _ => False) (pre ++ [⟨(j, ⟨yk, yn⟩), hx⟩]) W .normal { tmps := #[], defers := [] } w12 by
      have hsz := HGE.out
      have hwz := HW0.out.size
      have hz0 := HZ0.out
      have K1 : KeepsFrom W0.heap.size W w12 := (show KeepsFrom W0.heap.size W W.drew from ⟨Nat.le_refl _, fun _ _ _ h _ => h⟩).trans (KeepsFrom.trans (KeepsFrom.of_grownBy hg9 (fun k e => by injection e with e; omega)) (KeepsFrom.trans (KeepsFrom.of_grownBy hg10 (fun k e => by injection e with e; omega)) (KeepsFrom.of_grownBy hg12 (fun k e => by injection e with e; omega))))
      have B1 : Below w.heap.size W.drew w12 := ((((Below.refl w.heap.size W.drew).grown hg9 hP.bl.size (fun k e => by injection e with e; omega)).grown hg10 (Nat.le_trans hP.bl.size hg9.size) (fun k e => by injection e with e; omega)).grown hg12 (Nat.le_trans hP.bl.size (Nat.le_trans hg9.size hg10.size)) (fun k e => by injection e with e; omega))
      have B0 : Below w.heap.size W w12 := ((Below.refl w.heap.size W).drew).trans B1
      have oth : ∀ b, b < W.drew.heap.size → b ≠ gf → b ≠ gn → w12.heap[b]? = W.drew.heap[b]? := fun b hb h1 h2 => ((hg12.block b (Nat.lt_of_lt_of_le hb (Nat.le_trans hg9.size hg10.size)) (fun e => h2 (by injection e))).trans ((hg10.block b (Nat.lt_of_lt_of_le hb hg9.size) (fun e => h2 (by injection e))).trans (hg9.block b hb (fun e => h1 (by injection e)))))
      obtain ⟨r1, r2, r3, r4, r5⟩ := hP0.apart gn (.inr rfl)
      refine ⟨K1, ⟨B0, fun k => (oth Bs k.lt q5 r5).trans k⟩, ?_⟩
      refine ⟨?_, ?_, (oth _ hP0.told.lt q1 r1).trans hP0.told, (oth _ hP0.c1.lt q2 r2).trans hP0.c1, (oth _ hP0.c2.lt q3 r3).trans hP0.c2, (oth _ hP0.c3.lt q4 r4).trans hP0.c3, (oth _ hP0.bs.lt q5 r5).trans hP0.bs, hP0.bl.trans B1⟩
      · rw [List.map_append, List.map_singleton, foldT_snoc, List.length_append, List.length_singleton]
        rw [show tl.getD (j, (⟨yk, yn⟩ : LcV)).1 0 = tj from HTJ.out]
        exact hM12.mono (by omega)
      · rw [List.map_append, List.map_singleton, foldF_snoc, List.length_append, List.length_singleton]
        obtain ⟨D', hD'⟩ := hf9
        refine ⟨D', hD'.kept ?_⟩
        have lf := hD'.lt
        exact (hg12.block gf (Nat.lt_of_lt_of_le lf hg10.size) (fun e => by injection e with e; omega)).trans (hg10.block gf lf (fun e => by injection e with e; omega)))
    clear k9 k10 d7 d8 d9 d10 d11 d12 r1 r2 r3 r4 r5 hM9 hM10 he10 hM12 hP hP0 bX bX0 hg9 hg10 hg12 hf9 hXf hXn q1 q2 q3 q4 q5
    gi_wp2
    refine wpIn_region_til (fun w' => w'.cell? ⟨ct, 0, none⟩ = some (.slice (some ⟨gt, 0, none⟩) n n) ∧ w'.cell? ⟨cf, 0, none⟩ = some (.map (some gf)) ∧ w'.cell? ⟨cn, 0, none⟩ = some (.map (some gn)) ∧ w'.cell? ⟨Bx, 0, none⟩ = some (.int .i64 yk) ∧ w'.cell? ⟨Bx, 1, none⟩ = some (.int .i64 yn) ∧ w'.cell? ⟨gt, j, none⟩ = some (.int .i64 tj) ∧ ct < w'.heap.size ∧ cf < w'.heap.size ∧ cn < w'.heap.size ∧ Bx < w'.heap.size ∧ gt < w'.heap.size) 12 (by kernel_rfl) (by kernel_rfl) HS0.out ?_
    have hSd := HS0.out
    refine tilM 4 (Or.inr hSd) ?_
    refine tilM 6 (Or.inr hSd) ?_
    refine tilT 0 hSd ?_
    refine tilT 1 hSd ?_
    refine tilT 2 hSd ?_
    refine tilT 3 hSd ?_
    refine tilT 5 hSd ?_
    refine tilM 7 (Or.inr hSd) ?_
    refine tilT 8 hSd ?_
    refine wpTil_ready (rs := [9]) (by kernel_rfl) (by simp) ?_
    refine AllTil.cons rfl (fun K hK => ?_) ?_
    · skip
      rw [if_pos (by rfl)]
      go_simp
      clear hr9
      refine hK.out _ _ (HS9.out) ?_
      clear hK K
      try clear hSd
      have hSd := HS9.out
      try simp only [tilS, Act.put]
      refine wpTil_ready (rs := [10]) (by kernel_rfl) (by simp) ?_
      refine AllTil.cons rfl (fun K hK => ?_) ?_
      · skip
        rw [if_pos (by rfl)]
        go_simp
        clear hr10
        refine hK.out _ _ (HS10.out) ?_
        clear hK K
        try clear hSd
        have hSd := HS10.out
        try simp only [tilS, Act.put]
        refine tilM 11 (Or.inr hSd) ?_
        refine wpTil_ready (rs := [12]) (by kernel_rfl) (by simp) ?_
        refine AllTil.last rfl (by rfl) (fun K hK => ?_)
        rw [if_pos (by rfl)]
        go_simp
        clear hr12
        refine hK.out _ _ ?_
        clear hK K hSd
        try simp only [tilS, Act.put]
        refine wpTil_done (by kernel_rfl) ?_ _
        unfold onlyN
        exact HEND.out
      exact AllTil.nil
    exact AllTil.nil
  case done =>
    rintro D ys W hD hys hP hK
    have hyl : ys.length = n := by
      have t := congrArg List.length hys
      simpa [bkN17] using t
    have HP := hide (show PlS w gt ct gf gn cf cn Bs n (.slice Aa n ca) tl (2 * n) n (st0 ats tl) (fun x => if idxL ats x < n then some (idxL ats x) else none) W from by
      have t := hP
      have e1 : foldF (ys.map (fun (x : BkT17 ats) => x.1)) = (fun x => if idxL ats x < n then some (idxL ats x) else none) := by
        funext x
        rw [play_first hys hn, hn]
      rw [play_now tl hys hn, e1, hyl] at t
      exact t)
    have HK := hide hK
    have HDD := hide (show cn + 2 ≤ D from by have := HZ0.out; omega)
    have HNR := hide (fun (k : Nat) => seqE_R (l := l.take k) (st0_R (ats := ats) HTR.out))
    have HML := hide hl.range
    have HL := hide hl
    have HNL := hide hnl
    obtain ⟨s0, hs0⟩ := letl (st0 ats tl)
    obtain ⟨F, hF⟩ : ∃ F : LcV → Option Nat, F = (fun x => if idxL ats x < n then some (idxL ats x) else none) := ⟨_, rfl⟩
    rw [hs0, ← hF] at HP
    rw [hs0] at HNR
    have HS0 := hide hs0
    have HFF := hide hF
    clear hP hK hys hyl hD ha hh hl hs0 hF hnl
    gi_wp2
    gi_loopw [41] (fun z wr => ∃ k : Nat, k ≤ nl ∧ z = .int .i64 (k : Int) ∧ Hid (PlS w gt ct gf gn cf cn Bs n (.slice Aa n ca) tl (2 * n + k) n (seqE (l.take k) s0) F wr) ∧ Hid (wr.heap[D]? = some (.deferred (some [])))) (fun z _ => nl - (intOf z).toNat)
    case atStart => exact ⟨0, Nat.zero_le _, rfl, HP, HK⟩
    case round =>
      obtain ⟨k, hk, rfl, HPK, HDK⟩ := hrel
      obtain ⟨wo, rfl⟩ : ∃ wo, wo = wr := ⟨_, rfl⟩
      by_cases hlt : k < nl
      case neg =>
        obtain rfl : nl = k := by omega
        have hnn : ¬ ((nl : Int) < (nl : Int)) := by omega
        rw [List.take_of_length_le (Nat.le_of_eq HNL.out)] at HPK
        have HNOW := hide (seqE_R (l := l) (s := s0) (by rw [← HS0.out]; exact st0_R HTR.out))
        obtain ⟨now, hnow⟩ := letl (seqE l s0)
        rw [hnow] at HPK HNOW
        have HNW := hide hnow
        have HLTL := hide (show tl.length = ats.length from by rw [← HTL.out]; unfold toldL; simp [hn])
        have HN := hide hn
        obtain ⟨Dd, hDd⟩ := HPK.out.fir
        have HAT := hide hDd.2
        obtain ⟨w8, hrun, hrg8, hg8, hs8⟩ := hDd.1.range keyed17 under17
        have HP8 := hide (show PlS w gt ct gf gn cf cn Bs n (.slice Aa n ca) (toldQ ats tl now (Maps.has Dd)) (2 * n + nl) n now F w8 from by
          have e : toldQ ats tl now (Maps.has Dd) = tl := toldQ_start HLTL.out (fun i hi => by
            have hR : lcR (lcAt ats i) := HLR.out _ (by rw [lcAt_of (List.getElem?_eq_getElem hi)]; exact List.getElem_mem hi)
            rw [(HAT.out _ hR).1, HFF.out]
            have := idx_le17 hi
            simp only []
            rw [if_pos (by omega)]
            rfl)
          rw [e]
          refine HPK.out.blk (fun b hb => hg8.block b ?_ (by simp)) (HPK.out.bl.grown hg8 HPK.out.bl.size (fun k e => by cases e))
          rcases hb with rfl | rfl | rfl | rfl | rfl | rfl | rfl
          · exact HPK.out.told.lt
          · exact HPK.out.c1.lt
          · exact hDd.lt
          · exact HPK.out.now.lt
          · exact HPK.out.c2.lt
          · exact HPK.out.c3.lt
          · exact HPK.out.bs.lt)
        have HD8 := hide (show w8.heap[D]? = some (.deferred (some [])) from (hg8.block D (Array.getElem?_eq_some_iff.1 HDK.out).1 (by simp)).trans HDK.out)
        have HLE := hide (show ∀ x, lcR x → Maps.has Dd (litL x) = true → idxL ats x < n from fun x hx h => by
          rw [(HAT.out x hx).1, HFF.out] at h
          by_cases e : idxL ats x < n
          · exact e
          · simp only [] at h
            rw [if_neg e] at h
            cases h)
        have HAV := hide (show ∀ x, lcR x → idxL ats x < n → ∀ z, Dd.atKey (litL x) z = .lit (.int .i64 ((idxL ats x : Nat) : Int)) from fun x hx h => (HAT.out x hx).2 _ (by rw [HFF.out]; simp only []; rw [if_pos h]))
        obtain ⟨d8, -⟩ := HPK.out.c2.cell 0 (v := .map (some gf)) rfl
        have l8 := HPK.out.c2.lt
        have HDO := hide (show D < wo.heap.size from (Array.getElem?_eq_some_iff.1 HDK.out).1)
        have HSG := hide (show gt < wo.heap.size ∧ gf < wo.heap.size ∧ gn < wo.heap.size ∧ ct < wo.heap.size ∧ cf < wo.heap.size ∧ cn < wo.heap.size ∧ Bs < wo.heap.size from ⟨HPK.out.told.lt, HPK.out.c1.lt |> fun _ => hDd.lt, HPK.out.now.lt, HPK.out.c1.lt, HPK.out.c2.lt, HPK.out.c3.lt, HPK.out.bs.lt⟩)
        obtain ⟨r, hr⟩ := letl wo.heap.size
        rw [hr] at hrun hrg8 HDO HSG
        clear hnow hDd hg8 hs8 HPK HAT HL HDK HK
        gi_wp2
        gi_loopw [] (fun wr => ∃ (left : Lit → Bool) (cnt : Nat), wr.ranges Try.prog 24 (plainElem (H := Unit) Try.prog 3) gf r n Dd left cnt ∧ Hid (PlS w gt ct gf gn cf cn Bs n (.slice Aa n ca) (toldQ ats tl now left) (2 * n + nl) n now F wr) ∧ Hid (wr.heap[D]? = some (.deferred (some []))) ∧ Hid (∀ x, lcR x → left (litL x) = true → idxL ats x < n)) (fun wr => wr.rangeLeft gf r)
        case atStart => exact ⟨_, _, hrg8, HP8, HD8, HLE⟩
        case round =>
          obtain ⟨left, cnt, hrg, HPQ, HDQ, HLQ⟩ := hrel
          obtain ⟨wq, rfl⟩ : ∃ wq, wq = wr := ⟨_, rfl⟩
          rcases hrg.next keyed17 0 with ⟨-, hall, hnx⟩ | ⟨key, v, kl, y, w14, cnt', hkey, hleft, hv, hat, hnx, hrg', hlt', hg14, hs14, hen⟩
          · have HALL := hide hall
            obtain ⟨x7, -⟩ := HPQ.out.c1.cell 0 (v := .slice (some ⟨gt, 0, none⟩) n n) rfl
            have l7 := HPQ.out.c1.lt
            clear hall hrg
            gi_wp2
            refine ⟨by simp, .inl ⟨_, _, rfl, run_takeDeferred HDQ.out, ?_⟩⟩
            have hbl := belowK_b (w := w) (Nat.le_refl _) wq D _ (.deferred none) (by have := HDD.out; have := HGE.out; omega) HDQ.out rfl rfl
            refine ⟨_, results_tmp rfl _ _ _, gt, rfl, ?_, HGE.out.1, HPQ.out.bl.trans hbl⟩
            have e := toldQ_end (ats := ats) (l := l) (has := has) HALL.out
            rw [HN.out, HTL.out, HS0.out, HNW.out] at e
            rw [← e]
            refine Box.own17 HPQ.out.told (grownBy_putObj' wq D (.deferred none)) (fun r e => ?_)
            cases e
            exact ⟨_, HDQ.out, rfl⟩
          · obtain ⟨x, hxR, rfl, rfl⟩ := key17_inv hkey
            have hid := HLQ.out x hxR hleft
            obtain ⟨cI, rfl, rfl, -⟩ := plainElem_int_inv Try.underlying3 hv
            have hcv : cI = ((idxL ats x : Nat) : Int) := by
              have t := (hat (.lit (.int .i64 0))).symm.trans (HAV.out x hxR hid _)
              injection t with t
              injection t with _ t
            subst hcv
            obtain ⟨i, hi⟩ := letl (idxL ats x)
            have HI := hide hi
            rw [hi] at hid hnx hen hv
            have HXR := hide hxR
            have HMS := hide (show w14.rangeLeft gf r < wq.rangeLeft gf r by rw [hrg'.left_eq, hrg.left_eq]; exact hlt')
            obtain ⟨w15, hw15⟩ := letr (w14.alloc (.cells #[.int .i64 x.k, .int .i64 x.n] 24))
            have hR15 : w15.ranges Try.prog 24 (plainElem (H := Unit) Try.prog 3) gf r n Dd (fun z => left z && !z.sameKey (litL x)) cnt' := by rw [hw15]; exact hrg'.alloc _
            have HNR' := hide (show r ≠ gt ∧ D ≠ r from ⟨fun e => by have := HSG.out; omega, fun e => by have := HDO.out; omega⟩)
            have HP14 := hide (show PlS w gt ct gf gn cf cn Bs n (.slice Aa n ca) (toldQ ats tl now left) (2 * n + nl) n now F w14 from by
              have hsg := HSG.out
              refine HPQ.out.blk (fun b hb => hg14.block b ?_ (fun e => by injection e with e; rcases hb with rfl | rfl | rfl | rfl | rfl | rfl | rfl <;> omega)) (HPQ.out.bl.grown hg14 HPQ.out.bl.size (fun k e => by injection e with e; have := HGE.out; omega))
              rcases hb with rfl | rfl | rfl | rfl | rfl | rfl | rfl
              · exact HPQ.out.told.lt
              · exact HPQ.out.c1.lt
              · obtain ⟨D', hD'⟩ := HPQ.out.fir; exact hD'.lt
              · exact HPQ.out.now.lt
              · exact HPQ.out.c2.lt
              · exact HPQ.out.c3.lt
              · exact HPQ.out.bs.lt)
            have HD14 := hide (show w14.heap[D]? = some (.deferred (some [])) from (hg14.block D (Array.getElem?_eq_some_iff.1 HDQ.out).1 (fun e => HNR'.out.2 (by injection e))).trans HDQ.out)
            have HP15 := hide (show PlS w gt ct gf gn cf cn Bs n (.slice Aa n ca) (toldQ ats tl now left) (2 * n + nl) n now F w15 from by rw [hw15]; exact HP14.out.below (alloc1 _ _))
            have HD15 := hide (show w15.heap[D]? = some (.deferred (some [])) from by rw [hw15]; exact (Below.heap_alloc _ _ _ (Array.getElem?_eq_some_iff.1 HD14.out).1).trans HD14.out)
            obtain ⟨Bm, hBm⟩ := letl w14.heap.size
            have HX15 := lBox hw15 hBm
            have HWA := hide (And.intro hw15 hBm)
            have HR16 := hide (show w15.drew.ranges Try.prog 24 (plainElem (H := Unit) Try.prog 3) gf r n Dd (fun z => left z && !z.sameKey (litL x)) cnt' from hR15.kept (row := none) ⟨rfl, rfl, rfl, Nat.le_refl _, fun _ _ _ => rfl⟩ (by simp) (by simp))
            have HR16L := hide (show cnt' = w14.rangeLeft gf r from hrg'.left_eq.symm)
            have HLQ' := hide (show ∀ z, lcR z → (fun z => left z && !z.sameKey (litL x)) (litL z) = true → idxL ats z < n from fun z hz h => HLQ.out z hz (by have h : (left (litL z) && !(litL z).sameKey (litL x)) = true := h; rw [Bool.and_eq_true] at h; exact h.1))
            have HTQ := hide (toldQ_step (tl := tl) (now := now) (left := left) HLR.out hxR (by rw [hi, HN.out]; exact hid))
            rw [hi] at HTQ
            have HTV := hide (show ∃ z, (toldQ ats tl now left)[i]? = some z from ⟨_, List.getElem?_eq_getElem (by simp [toldQ]; rw [HN.out]; exact hid)⟩)
            obtain ⟨xk, xn⟩ := x
            unfold lcA at hnx hen
            simp only at hnx hen hw15 HX15
            have hi0 : (0 : Int) ≤ (i : Int) := by omega
            have hi1 : (i : Int) < (n : Int) := by omega
            clear hw15 hBm hR15 hrg hrg' hkey hleft hv hat hlt' hg14 hs14 hi hxR
            gi_wp2
            rw [← HWA.out.1, HWA.out.2]
            have HP16 := hide (show PlS w gt ct gf gn cf cn Bs n (.slice Aa n ca) (toldQ ats tl now left) (2 * n + nl) n now F w15.drew from HP15.out.blk (fun _ _ => rfl) HP15.out.bl.drew)
            have HX16 := hide (show Box w15.drew Bm #[.int .i64 xk, .int .i64 xn] 24 from HX15.out)
            have hlk := HP16.out.now.look HXR.out
            obtain ⟨ov, hov⟩ := HTV.out
            obtain ⟨x16, f16⟩ := HP16.out.told.it hov
            have l16 := HP16.out.told.lt
            have HS6 := hide (show w15.drew.cell? ⟨ct, 0, none⟩ = some (.slice (some ⟨gt, 0, none⟩) n n) ∧ w15.drew.cell? ⟨cn, 0, none⟩ = some (.map (some gn)) ∧ w15.drew.cell? ⟨Bm, 0, none⟩ = some (.int .i64 xk) ∧ w15.drew.cell? ⟨Bm, 1, none⟩ = some (.int .i64 xn) ∧ ct < w15.drew.heap.size ∧ cn < w15.drew.heap.size ∧ Bm < w15.drew.heap.size from ⟨(HP16.out.c1.cell 0 (v := .slice (some ⟨gt, 0, none⟩) n n) rfl).1, (HP16.out.c3.cell 0 (v := .map (some gn)) rfl).1, (HX16.out.cell 0 (v := .int .i64 xk) rfl).1, (HX16.out.cell 1 (v := .int .i64 xn) rfl).1, HP16.out.c1.lt, HP16.out.c3.lt, HX16.out.lt⟩)
            have HEND := hide (show (∃ (left : Lit → Bool) (cnt : Nat), (w15.drew.setCell ⟨gt, i, none⟩ (.int .i64 (now ⟨xk, xn⟩))).ranges Try.prog 24 (plainElem (H := Unit) Try.prog 3) gf r n Dd left cnt ∧ Hid (PlS w gt ct gf gn cf cn Bs n (.slice Aa n ca) (toldQ ats tl now left) (2 * n + nl) n now F (w15.drew.setCell ⟨gt, i, none⟩ (.int .i64 (now ⟨xk, xn⟩)))) ∧ Hid ((w15.drew.setCell ⟨gt, i, none⟩ (.int .i64 (now ⟨xk, xn⟩))).heap[D]? = some (.deferred (some []))) ∧ Hid (∀ x, lcR x → left (litL x) = true → idxL ats x < n)) ∧ (w15.drew.setCell ⟨gt, i, none⟩ (.int .i64 (now ⟨xk, xn⟩))).rangeLeft gf r < wq.rangeLeft gf r from by
              have hg : w15.drew.grownBy (w15.drew.setCell ⟨gt, i, none⟩ (.int .i64 (now ⟨xk, xn⟩))) (some gt) := ⟨rfl, rfl, rfl, by rw [World.size_setCell]; exact Nat.le_refl _, fun k _ hk => heap_setCell_other _ _ _ _ (fun e => hk (by rw [e]))⟩
              obtain ⟨q1, q2, q3, q4, q5⟩ := HP16.out.apart gf (.inl rfl)
              obtain ⟨r1, r2, r3, r4, r5⟩ := HP16.out.apart gn (.inr rfl)
              have hge := HGE.out
              have hR' := HR16.out.kept hg (fun e => q1 (by injection e with e; exact e.symm)) (fun e => HNR'.out.1 (by injection e))
              refine ⟨⟨_, _, hR', hide ?_, hide ?_, HLQ'⟩, ?_⟩
              · rw [← HTQ.out]
                obtain ⟨D', hD'⟩ := HP16.out.fir
                exact ⟨HP16.out.now.kept (heap_setCell_other _ _ _ _ r1.symm), ⟨D', hD'.kept (heap_setCell_other _ _ _ _ q1.symm)⟩, HP16.out.told.itSet _ _, HP16.out.c1.other (by have := HGT2.out; omega), HP16.out.c2.other (by omega), HP16.out.c3.other (by omega), HP16.out.bs.other (by have := HBS2.out; omega), HP16.out.bl.setCell (p := ⟨gt, i, none⟩) hge.1 _⟩
              · exact (heap_setCell_other _ _ _ _ (show D ≠ gt from by have := HDD.out; omega)).trans HD15.out
              · have t := HMS.out
                rw [hR'.left_eq]
                rw [HR16L.out]
                exact t)
            clear hov
            refine wpIn_region_til (fun w' => w'.cell? ⟨ct, 0, none⟩ = some (.slice (some ⟨gt, 0, none⟩) n n) ∧ w'.cell? ⟨cn, 0, none⟩ = some (.map (some gn)) ∧ w'.cell? ⟨Bm, 0, none⟩ = some (.int .i64 xk) ∧ w'.cell? ⟨Bm, 1, none⟩ = some (.int .i64 xn) ∧ ct < w'.heap.size ∧ cn < w'.heap.size ∧ Bm < w'.heap.size) 6 (by kernel_rfl) (by kernel_rfl) HS6.out ?_
            have hSd := HS6.out
            refine tilM 1 (Or.inr hSd) ?_
            refine tilT 0 hSd ?_
            refine tilT 2 hSd ?_
            refine tilT 3 hSd ?_
            refine wpTil_ready (rs := [4]) (by kernel_rfl) (by simp) ?_
            refine AllTil.cons rfl (fun K hK => ?_) ?_
            · skip
              rw [if_pos (by rfl)]
              go_simp
              clear hlk
              refine hK.out _ _ (HS6.out) ?_
              clear hK K
              try clear hSd
              have hSd := HS6.out
              try simp only [tilS, Act.put]
              refine tilM 5 (Or.inr hSd) ?_
              refine wpTil_ready (rs := [6]) (by kernel_rfl) (by simp) ?_
              refine AllTil.last rfl (by rfl) (fun K hK => ?_)
              rw [if_pos (by rfl)]
              go_simp
              clear x16 f16
              refine hK.out _ _ ?_
              clear hK K hSd
              try simp only [tilS, Act.put]
              refine wpTil_done (by kernel_rfl) ?_ _
              unfold onlyN
              gi_wp2
              go_roundw
              case rel => exact HEND.out.1
              case measure => exact HEND.out.2
            exact AllTil.nil
      have HLT := hide hlt
      obtain ⟨y, hy⟩ : ∃ y, l[k]? = some y := ⟨_, List.getElem?_eq_getElem (by have := HNL.out; omega)⟩
      obtain ⟨b, o, hA, -⟩ := HL.out.get hy
      subst hA
      obtain ⟨d1, d2, d3, d4, lb⟩ := HL.out.at' HPK.out.bl hy
      have HYR := hide (HML.out y (List.mem_of_getElem? hy))
      have HSQ := hide (seqE_snoc hy s0)
      have HNK := hide (HNR.out k)
      obtain ⟨T, hT⟩ := letl (seqE (l.take k) s0)
      rw [hT] at HPK HSQ HNK
      have HTT := hide hT
      obtain ⟨⟨tk, tn⟩, ⟨fk, fn⟩⟩ := y
      simp only at d1 d2 d3 d4
      have hk0 : (0 : Int) ≤ (k : Int) := by omega
      have hk1 : (k : Int) < (nl : Int) := by omega
      have HKK := hide hk
      clear hy hT
      gi_wp2
      clear d1 d2 d3 d4 lb
      obtain ⟨w5, hw5⟩ := letr (wo.alloc (.cells #[.int .i64 tk, .int .i64 tn, .int .i64 fk, .int .i64 fn] 38))
      obtain ⟨Bm, hBm⟩ := letl wo.heap.size
      have HXM := lBox hw5 hBm
      have HP5 := hide (HPK.out.below (show Below wo.heap.size wo w5 by rw [hw5]; exact alloc1 _ _))
      have HD5 := hide (show w5.heap[D]? = some (.deferred (some [])) by rw [hw5]; exact (Below.heap_alloc _ _ _ (Array.getElem?_eq_some_iff.1 HDK.out).1).trans HDK.out)
      rw [← hw5, hBm]
      clear hw5 hBm
      have HP6 := hide (show PlS w gt ct gf gn cf cn Bs n (.slice Aa n ca) tl (2 * n + k) n T F w5.drew from HP5.out.blk (fun _ _ => rfl) HP5.out.bl.drew)
      have HX6 := hide (show Box w5.drew Bm #[.int .i64 tk, .int .i64 tn, .int .i64 fk, .int .i64 fn] 38 from HXM.out)
      have hlk := HP6.out.now.look HYR.out.2
      obtain ⟨w7, hup, hM7, hg7⟩ := HP6.out.now.put HYR.out.1 (HNK.out ⟨fk, fn⟩) (by omega)
      have HS6 := hide (show w5.drew.cell? ⟨cn, 0, none⟩ = some (.map (some gn)) ∧ w5.drew.cell? ⟨Bm, 0, none⟩ = some (.int .i64 tk) ∧ w5.drew.cell? ⟨Bm, 1, none⟩ = some (.int .i64 tn) ∧ w5.drew.cell? ⟨Bm, 2, none⟩ = some (.int .i64 fk) ∧ w5.drew.cell? ⟨Bm, 3, none⟩ = some (.int .i64 fn) ∧ cn < w5.drew.heap.size ∧ Bm < w5.drew.heap.size from ⟨(HP6.out.c3.cell 0 (v := .map (some gn)) rfl).1, (HX6.out.cell 0 (v := .int .i64 tk) rfl).1, (HX6.out.cell 1 (v := .int .i64 tn) rfl).1, (HX6.out.cell 2 (v := .int .i64 fk) rfl).1, (HX6.out.cell 3 (v := .int .i64 fn) rfl).1, HP6.out.c3.lt, HX6.out.lt⟩)
      have HP7 := hide (show PlS w gt ct gf gn cf cn Bs n (.slice Aa n ca) tl (2 * n + (k + 1)) n (seqE (l.take (k + 1)) s0) F w7 from by
        have hsz := HGE.out
        obtain ⟨r1, r2, r3, r4, r5⟩ := HP6.out.apart gn (.inr rfl)
        have oth : ∀ b, b < w5.drew.heap.size → b ≠ gn → w7.heap[b]? = w5.drew.heap[b]? := fun b hb h1 => hg7.block b hb (fun e => h1 (by injection e))
        refine ⟨?_, ?_, (oth _ HP6.out.told.lt r1).trans HP6.out.told, (oth _ HP6.out.c1.lt r2).trans HP6.out.c1, (oth _ HP6.out.c2.lt r3).trans HP6.out.c2, (oth _ HP6.out.c3.lt r4).trans HP6.out.c3, (oth _ HP6.out.bs.lt r5).trans HP6.out.bs, HP6.out.bl.grown hg7 HP6.out.bl.size (fun k e => by injection e with e; omega)⟩
        · rw [HSQ.out]
          exact hM7.mono (by omega)
        · obtain ⟨D', hD'⟩ := HP6.out.fir
          exact ⟨D', hD'.kept (oth _ hD'.lt (by omega))⟩)
      have HD7 := hide (show w7.heap[D]? = some (.deferred (some [])) from (hg7.block D (Array.getElem?_eq_some_iff.1 HD5.out).1 (fun e => by injection e with e; have := HDD.out; have := HGE.out; omega)).trans HD5.out)
      clear hM7 hg7
      refine wpIn_region_til (fun w' => w'.cell? ⟨cn, 0, none⟩ = some (.map (some gn)) ∧ w'.cell? ⟨Bm, 0, none⟩ = some (.int .i64 tk) ∧ w'.cell? ⟨Bm, 1, none⟩ = some (.int .i64 tn) ∧ w'.cell? ⟨Bm, 2, none⟩ = some (.int .i64 fk) ∧ w'.cell? ⟨Bm, 3, none⟩ = some (.int .i64 fn) ∧ cn < w'.heap.size ∧ Bm < w'.heap.size) 7 (by kernel_rfl) (by kernel_rfl) HS6.out ?_
      have hSd := HS6.out
      refine tilM 1 (Or.inr hSd) ?_
      refine tilM 4 (Or.inr hSd) ?_
      refine tilT 0 hSd ?_
      refine tilT 2 hSd ?_
      refine tilT 3 hSd ?_
      refine tilT 5 hSd ?_
      refine wpTil_ready (rs := [6]) (by kernel_rfl) (by simp) ?_
      refine AllTil.cons rfl (fun K hK => ?_) ?_
      · skip
        rw [if_pos (by rfl)]
        go_simp
        clear hlk
        refine hK.out _ _ (HS6.out) ?_
        clear hK K
        try clear hSd
        have hSd := HS6.out
        try simp only [tilS, Act.put]
        refine wpTil_ready (rs := [7]) (by kernel_rfl) (by simp) ?_
        refine AllTil.last rfl (by rfl) (fun K hK => ?_)
        rw [if_pos (by rfl)]
        go_simp
        clear hup
        refine hK.out _ _ ?_
        clear hK K hSd
        try simp only [tilS, Act.put]
        refine wpTil_done (by kernel_rfl) ?_ _
        unfold onlyN
        gi_wp2
        go_roundw
        case rel => exact ⟨k + 1, by omega, by simp, HP7, HD7⟩
        case measure => simp [intOf] <;> omega
      exact AllTil.nil
  case stop =>
    rintro D c pre W _ _ h _
    exact h.elim
end Go.Proofs.Ytkilfejcohnceaa
