/- Layer 15: what block and found leave; span.Spans. Conditions: the tables of parts and of the library read as listed. -/
import Derived.Test.YteoopilmdlhkhaaDoorPaWG
import Derived.Test.YteoopilmdlhkhaaDoorPaWS
set_option linter.unusedSimpArgs false
set_option linter.unusedVariables false
namespace Go.Proofs.YteoopilmdlhkhaaDoor
open Go.RowKit

/-- v is there at a point of a block that begins at p0. -/
def PtB15 (f : FunV) (p0 : Int) (ls : List InsV) (t : List Nat) (k : Nat) (pt v : Int) : Prop := ∃ (i : Nat) (x : InsV), k ≤ i ∧ ls[i]? = some x ∧ ((pt = p0 + 2 * (i : Int) + 1 ∧ v ∈ listL (behS15 x (closeL f (thrS (ls.drop (i + 1)) t)))) ∨ (pt = p0 + 2 * (i : Int) ∧ v ∈ listL (closeL f (thrS (ls.drop i) t))))
/-- v is kept across a call of a block. -/
def CsB15 (f : FunV) (ls : List InsV) (t : List Nat) (k : Nat) (v : Int) : Prop := ∃ (i : Nat) (x : InsV), k ≤ i ∧ ls[i]? = some x ∧ x.op = 19 ∧ v ∈ listL (acrS15 x (closeL f (thrS (ls.drop (i + 1)) t)))
theorem ins_inv15 {F : SpF15} {P : Int → Int → Prop} {C : Int → Prop} (h : SpI15 F P C) (x : InsV) {s : List Nat} (hs : SetOk s) (pt : Int) : SpI15 (ins15 x s pt F) (fun p v => P p v ∨ (p = pt ∧ v ∈ listL (behS15 x s))) (fun v => C v ∨ (x.op = 19 ∧ v ∈ listL (acrS15 x s))) := by
  have h1 := h.len pt (listL (behS15 x s))
  unfold ins15
  split
  · rename_i h19
    exact (h1.mrk (listL (acrS15 x s)) (fun z hz => ⟨pt, .inr ⟨rfl, acr_beh15 hs hz⟩⟩)).congr (fun p v => Iff.rfl) (fun v => by simp [h19])
  · rename_i h19
    exact h1.congr (fun p v => Iff.rfl) (fun v => by simp [h19])
theorem blk_inv15 (f : FunV) (p0 : Int) (ls : List InsV) (t : List Nat) {F : SpF15} {P : Int → Int → Prop} {C : Int → Prop} (h : SpI15 F P C) : ∀ (m k : Nat), k + m = ls.length →
    (blk15 f p0 ((List.range' k m).map (fun j => (j, ls.getD j ⟨0, 0, 0, 0, 0, 0, []⟩))).reverse (t, F)).1 = thrS (ls.drop k) t ∧
    SpI15 (blk15 f p0 ((List.range' k m).map (fun j => (j, ls.getD j ⟨0, 0, 0, 0, 0, 0, []⟩))).reverse (t, F)).2 (fun pt v => P pt v ∨ PtB15 f p0 ls t k pt v) (fun v => C v ∨ CsB15 f ls t k v)
  | 0, k, hk => by
    have hd : ls.drop k = [] := List.drop_eq_nil_of_le (by omega)
    refine ⟨by rw [hd]; rfl, h.congr (fun p v => ⟨.inl, fun q => q.elim id ?_⟩) (fun v => ⟨.inl, fun q => q.elim id ?_⟩)⟩
    · rintro ⟨i, x, h1, h2, -⟩
      have := (List.getElem?_eq_some_iff.1 h2).1
      omega
    · rintro ⟨i, x, h1, h2, -⟩
      have := (List.getElem?_eq_some_iff.1 h2).1
      omega
  | m + 1, k, hk => by
    obtain ⟨ih1, ih2⟩ := blk_inv15 f p0 ls t h m (k + 1) (by omega)
    obtain ⟨x, hx⟩ : ∃ x, ls[k]? = some x := ⟨_, List.getElem?_eq_getElem (by omega)⟩
    have hgd : ls.getD k ⟨0, 0, 0, 0, 0, 0, []⟩ = x := by rw [List.getD_eq_getElem?_getD, hx]; rfl
    rw [List.range'_succ, List.map_cons, List.reverse_cons, blk15_snoc, hgd]
    obtain ⟨a, ha⟩ : ∃ a, blk15 f p0 ((List.range' (k + 1) m).map (fun j => (j, ls.getD j ⟨0, 0, 0, 0, 0, 0, []⟩))).reverse (t, F) = a := ⟨_, rfl⟩
    rw [ha] at ih1 ih2 ⊢
    have hdk : ls.drop k = x :: ls.drop (k + 1) := by
      obtain ⟨h1, h2⟩ := List.getElem?_eq_some_iff.1 hx
      rw [List.drop_eq_getElem_cons h1, h2]
    have e1 : insS x a.1 = thrS (ls.drop k) t := by rw [ih1, hdk]; rfl
    refine ⟨e1, ?_⟩
    show SpI15 (len15 (p0 + 2 * (k : Int)) (ins15 x (closeL f a.1) (p0 + 2 * (k : Int) + 1) a.2) (listL (closeL f (insS x a.1)))) _ _
    rw [e1, ih1]
    refine ((ins_inv15 ih2 x (closeL_ok f _) _).len _ _).congr (fun p v => ?_) (fun v => ?_)
    · constructor
      · rintro (((h1 | ⟨i, y, h1, h2, h3⟩) | ⟨h1, h2⟩) | ⟨h1, h2⟩)
        · exact .inl h1
        · exact .inr ⟨i, y, by omega, h2, h3⟩
        · exact .inr ⟨k, x, Nat.le_refl _, hx, .inl ⟨h1, h2⟩⟩
        · exact .inr ⟨k, x, Nat.le_refl _, hx, .inr ⟨h1, h2⟩⟩
      · rintro (h1 | ⟨i, y, h1, h2, h3⟩)
        · exact .inl (.inl (.inl h1))
        · rcases Nat.eq_or_lt_of_le h1 with e | e
          · subst e
            rw [hx] at h2
            injection h2 with h2
            subst h2
            rcases h3 with h3 | h3
            · exact .inl (.inr h3)
            · exact .inr h3
          · exact .inl (.inl (.inr ⟨i, y, e, h2, h3⟩))
    · constructor
      · rintro ((h1 | ⟨i, y, h1, h2, h3⟩) | ⟨h1, h2⟩)
        · exact .inl h1
        · exact .inr ⟨i, y, by omega, h2, h3⟩
        · exact .inr ⟨k, x, Nat.le_refl _, hx, h1, h2⟩
      · rintro (h1 | ⟨i, y, h1, h2, h3, h4⟩)
        · exact .inl (.inl h1)
        · rcases Nat.eq_or_lt_of_le h1 with e | e
          · subst e
            rw [hx] at h2
            injection h2 with h2
            subst h2
            exact .inr ⟨h3, h4⟩
          · exact .inl (.inr ⟨i, y, e, h2, h3, h4⟩)
/-- v is there at a point of the line; v is kept across a call of it. -/
def PtF15 (f : FunV) (l : List Int) (n : Nat) (pt v : Int) : Prop := ∃ (k : Nat) (b : Int), k < n ∧ l[k]? = some b ∧ PtB15 f (fnd15 f (l.take k)).1 (codeOf f b.toNat) (endT15 f b.toNat) 0 pt v
def CsF15 (f : FunV) (l : List Int) (n : Nat) (v : Int) : Prop := ∃ (k : Nat) (b : Int), k < n ∧ l[k]? = some b ∧ CsB15 f (codeOf f b.toNat) (endT15 f b.toNat) 0 v
theorem fnd_inv15 (f : FunV) (l : List Int) : ∀ n, n ≤ l.length → SpI15 (fnd15 f (l.take n)).2 (PtF15 f l n) (CsF15 f l n)
  | 0, _ => by
    rw [List.take_zero]
    exact SpI15.start.congr (fun p v => ⟨fun h => h.elim, fun ⟨k, b, h, _⟩ => absurd h (by omega)⟩) (fun v => ⟨fun h => h.elim, fun ⟨k, b, h, _⟩ => absurd h (by omega)⟩)
  | n + 1, hn => by
    have ih := fnd_inv15 f l n (by omega)
    obtain ⟨b, hb⟩ : ∃ b, l[n]? = some b := ⟨_, List.getElem?_eq_getElem (by omega)⟩
    rw [List.take_add_one, hb, Option.toList_some, fnd15_snoc]
    show SpI15 (blk15 f (fnd15 f (l.take n)).1 (prs15 (codeOf f b.toNat)) (endT15 f b.toNat, (fnd15 f (l.take n)).2)).2 _ _
    unfold prs15
    rw [List.range_eq_range']
    refine ((blk_inv15 f (fnd15 f (l.take n)).1 (codeOf f b.toNat) (endT15 f b.toNat) ih _ 0 (by omega)).2).congr (fun p v => ?_) (fun v => ?_)
    · constructor
      · rintro (⟨k, c, h1, h2, h3⟩ | h1)
        · exact ⟨k, c, by omega, h2, h3⟩
        · exact ⟨n, b, by omega, hb, h1⟩
      · rintro ⟨k, c, h1, h2, h3⟩
        by_cases e : k = n
        · subst e
          rw [hb] at h2
          injection h2 with h2
          subst h2
          exact .inr h3
        · exact .inl ⟨k, c, by omega, h2, h3⟩
    · constructor
      · rintro (⟨k, c, h1, h2, h3⟩ | h1)
        · exact ⟨k, c, by omega, h2, h3⟩
        · exact ⟨n, b, by omega, hb, h1⟩
      · rintro ⟨k, c, h1, h2, h3⟩
        by_cases e : k = n
        · subst e
          rw [hb] at h2
          injection h2 with h2
          subst h2
          exact .inr h3
        · exact .inl ⟨k, c, by omega, h2, h3⟩
theorem fnd_pos15 {f : FunV} {l : List Int} (hl : ∀ b ∈ l, (codeOf f b.toNat).length ≤ 40) : ∀ n, n ≤ l.length → 0 ≤ (fnd15 f (l.take n)).1 ∧ (fnd15 f (l.take n)).1 ≤ 80 * (n : Int)
  | 0, _ => by rw [List.take_zero]; exact ⟨Int.le_refl _, Int.le_refl _⟩
  | n + 1, hn => by
    obtain ⟨h1, h2⟩ := fnd_pos15 hl n (by omega)
    obtain ⟨b, hb⟩ : ∃ b, l[n]? = some b := ⟨_, List.getElem?_eq_getElem (by omega)⟩
    have := hl b (List.mem_of_getElem? hb)
    rw [List.take_add_one, hb, Option.toList_some, fnd15_snoc]
    show 0 ≤ (fnd15 f (l.take n)).1 + 2 * _ ∧ (fnd15 f (l.take n)).1 + 2 * _ ≤ _
    omega
theorem ptF_R15 {f : FunV} {l : List Int} (hl : ∀ b ∈ l, (codeOf f b.toNat).length ≤ 40) (h40 : l.length ≤ 40) {pt v : Int} (h : PtF15 f l l.length pt v) : 0 ≤ pt ∧ pt ≤ 100000 ∧ 0 ≤ v ∧ v < 4096 := by
  obtain ⟨k, b, h1, h2, i, x, -, h4, h5⟩ := h
  have hp := fnd_pos15 hl k (by omega)
  have hb := hl b (List.mem_of_getElem? h2)
  have hi := (List.getElem?_eq_some_iff.1 h4).1
  have hv : ∀ s, SetOk s → v ∈ listL s → 0 ≤ v ∧ v < 4096 := fun s hs hv => by
    obtain ⟨j, hj⟩ := List.getElem?_of_mem hv
    exact list15_R hs hj
  rcases h5 with ⟨h5, h6⟩ | ⟨h5, h6⟩
  · have := hv _ (behS15_ok (closeL_ok f _)) h6
    omega
  · have := hv _ (closeL_ok f _) h6
    omega
/-- What Spans answers with. -/
theorem fnd_R15 {f : FunV} {l : List Int} (hl : ∀ b ∈ l, (codeOf f b.toNat).length ≤ 40) (h40 : l.length ≤ 40) : ∀ v s, (fnd15 f l).2 v = some s → s.v = v ∧ i64R v ∧ i64R s.f ∧ i64R s.t := fun v s h => by
  have hi := fnd_inv15 f l l.length (Nat.le_refl _)
  rw [List.take_length] at hi
  obtain ⟨h1, h2, h3, -⟩ := hi.yes v s h
  have a := ptF_R15 hl h40 h2
  have b := ptF_R15 hl h40 h3
  unfold i64R
  omega
set_option maxRecDepth 100000 in
set_option maxHeartbeats 1000000 in
theorem spans_any15 (vk vb vs : Value) (f : FunV) (w : World) (B : Nat) (hB : B ≤ w.heap.size) (hi : FunI w (· < B) vk vb vs f) (hT : TabP w) (hTB : 0 < B) (hW : TabW w) (hWB : 1 < B) (hok : FlowOk f) (h1 : 1 ≤ f.blocks.length) (hne : ∀ c, c < f.blocks.length → codeOf f c ≠ []) (hfew : ∀ l ∈ f.blocks, ∀ x ∈ l, x.args.length ≤ 1099511627000) (hk : f.kinds.length ≤ 1000) :
    Calls Tryd.prog 7 #[.agg #[vk, vb, .int .i64 f.params, .int .i64 f.result, vs]] w fun e w' => ∃ v sp o, e = .returned v ∧ OrderOf f o ∧ SpL15 (fnd15 f o).2 sp ∧ SpsV w' (fun b => w.heap.size ≤ b ∧ b < w'.heap.size) v sp ∧ Below w.heap.size w w' := by
  have HFO := hide (fun (W : World) (hWW : Below w.heap.size w W) => found_any15 vk vb vs f W B (by have := hWW.size; omega) (hi.keep (up hWW hB) (fun _ h => h)) (hT.below hWW hT.1) hTB (hW.below hWW hW.1) hWB hok h1 hne hfew hk)
  have HR := hide (fun (o : List Int) (ho : OrderOf f o) => fnd_R15 (f := f) (l := o) (fun b hb => by
    obtain ⟨h2, h3⟩ := (order_reach hok h1 ho).rng b hb
    obtain ⟨l, hl⟩ : ∃ l, f.blocks[b.toNat]? = some l := ⟨_, List.getElem?_eq_getElem (by omega)⟩
    unfold codeOf
    rw [hl]
    exact hok.2.1 l (List.mem_of_getElem? hl)) (order_len hok h1 ho))
  have HSO := hide (fun (W : World) (b n : Nat) (F : SpF15) (hM : MpS15 W b n F) (hn : n ≤ 100000000) (hF : ∀ v s, F v = some s → s.v = v ∧ i64R v ∧ i64R s.f ∧ i64R s.t) => (show Calls Tryd.prog 13 #[.func (.func 21) #[] #[.pointer (some ⟨W.heap.size, 0, none⟩)], .func (.func 10) #[] #[]] (W.alloc (.cells #[.map (some b)] 49)) fun e w' => ∃ v sp, e = .returned v ∧ SpL15 F sp ∧ SpsV w' (fun b => W.heap.size ≤ b ∧ b < w'.heap.size) v sp ∧ Below W.heap.size W w' from by
    have q := Box.new W #[.map (some b)] 49
    refine (sortedFunc15 W.heap.size b n F hF _ (q.cell 0 rfl).1 q.lt (hM.below (alloc1 W _)) (by omega)).mono ?_
    rintro e w' ⟨v, sp, h2, h3, h4, h5⟩
    rw [World.size_alloc] at h4 h5
    exact ⟨v, sp, h2, h3, h4.keep (fun _ _ _ => rfl) (fun b hb => ⟨by omega, hb.2⟩), (alloc1 W _).trans (h5.mono (by omega))⟩))
  obtain ⟨Ak, ck, rfl, hck, hmk⟩ := hi.1.open'
  obtain ⟨Ab, cb, rfl, hcb, hmb⟩ := hi.2.1.open'
  obtain ⟨As, cs, rfl, hcs, hms⟩ := hi.2.2.1.open'
  obtain ⟨OF, hOF⟩ := letl (OrderOf f)
  obtain ⟨FN, hFN⟩ := letl (fnd15 f)
  rw [hOF, hFN] at HFO HR
  rw [hOF, hFN]
  clear hi hT hW hok h1 hne hfew hk hOF hFN
  generalize f.kinds.length = lk, f.base.length = lb, f.params = fp, f.result = fr, f.blocks.length = nls at *
  go_enter Tryd.func7, Tryd.ntmps7
  go_upto_region 1 with (fail)
  obtain ⟨w1, hw1⟩ := letr (w.alloc (.cells #[.slice Ak lk ck, .slice Ab lb cb, .int .i64 fp, .int .i64 fr, .slice As nls cs] 34))
  obtain ⟨h5, hh5⟩ := letl w.heap.size
  have HX1 := lBox hw1 hh5
  have HB1 := lBel hw1
  rw [← hw1]
  clear hw1
  have x2 := And.intro ((HX1.out.below (Below.refl _ _)).cell 0 (v := .slice Ak lk ck) rfl).1 (And.intro ((HX1.out.below (Below.refl _ _)).cell 1 (v := .slice Ab lb cb) rfl).1 (And.intro ((HX1.out.below (Below.refl _ _)).cell 2 (v := .int .i64 fp) rfl).1 (And.intro ((HX1.out.below (Below.refl _ _)).cell 3 (v := .int .i64 fr) rfl).1 (((HX1.out.below (Below.refl _ _)).cell 4 (v := .slice As nls cs) rfl).1))))
  have l2 := HX1.out.lt
  go_wp2_with (first
    | (go_at_call 13; (with_reducible refine (HSO.out w2 b n _ HM2.out hn2 HR2.out).mono ?_); rintro e w4 ⟨v, sp, rfl, hsp, hs4, hb4⟩)
    | (go_at_call 14; (with_reducible refine (values_any15 b w2).mono ?_); rintro e w3 ⟨rfl, rfl⟩)
    | (go_at_call 15; (with_reducible refine (HFO.out w1 HB1.out).mono ?_); rintro e w2 ⟨b, n, o, rfl, hO, hm2, hn2, hb2, hB2⟩; have HM2 := hide hm2; have HR2 := hide (HR.out o hO); have HB2 := hide (HB1.out.trans (hB2.mono HB1.out.size))))
  go_ret
  exact ⟨v, sp, o, rfl, hO, hsp, hs4.keep (fun _ _ _ => rfl) (fun b hb => ⟨by have := HB2.out.size; omega, hb.2⟩), HB2.out.trans (hb4.mono HB2.out.size)⟩
end Go.Proofs.YteoopilmdlhkhaaDoor
