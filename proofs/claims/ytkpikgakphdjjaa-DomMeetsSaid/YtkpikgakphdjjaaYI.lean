/- The tree that dom's grow makes: a list of next aboves at rest. Condition: the function is one of a program that may be. -/
import Derived.Test.YtkpikgakphdjjaaYH
import Derived.Laws.Rows
set_option linter.unusedSimpArgs false
set_option linter.unusedVariables false
namespace Go.Proofs.Ytkpikgakphdjjaa
open Go.RowKit
attribute [local go_sem ↓] Go.wp_at_zero Go.wp_at_succ

theorem tnO_nil : tnO [] = fun _ => 0 := by funext b; unfold tnO; rw [placeN_out (by simp)]; rfl
theorem tnO_snoc {o : List Int} {b : Nat} (hb : (b : Int) ∉ o) : tnO (o ++ [(b : Int)]) = fun x => if x = b then o.length else tnO o x := by
  funext x
  unfold tnO
  rw [placeN_snoc hb]
  by_cases e : x = b
  · subst e
    rw [if_pos rfl, if_pos rfl]
    omega
  · rw [if_neg (by omega), if_neg e]
theorem TnW.zero {w : World} {gt n : Nat} {mc : Array Value} (h : Box w gt mc 3) (hm : mc = ((List.replicate n (0 : Int)).map (Value.int .i64)).toArray) : TnW w gt n (fun _ => 0) := by
  subst hm
  unfold TnW
  have e : (List.range n).map (fun _ : Nat => Value.int .i64 ((0 : Nat) : Int)) = (List.replicate n (0 : Int)).map (Value.int .i64) := by
    apply List.ext_getElem
    · simp
    · intro i h1 h2; simp
  rw [e]
  exact h
theorem TnW.set {w : World} {gt n b v : Nat} {tn : Nat → Nat} (h : TnW w gt n tn) : TnW (w.setCell ⟨gt, b, none⟩ (.int .i64 (v : Int))) gt n (fun x => if x = b then v else tn x) := by
  have := Box.set h b (.int .i64 (v : Int))
  unfold TnW
  have e : (List.range n).map (fun x : Nat => Value.int .i64 (((if x = b then v else tn x : Nat) : Nat) : Int)) = ((List.range n).map (fun x : Nat => Value.int .i64 ((tn x : Nat) : Int))).set b (.int .i64 (v : Int)) := by
    apply List.ext_getElem
    · simp
    · intro i h1 h2
      rw [List.getElem_set]
      by_cases e : i = b
      · subst e; simp
      · simp [e]; intro h; exact absurd h.symm e
  rw [e]
  simpa using this
theorem Box.newAt {w : World} {k : Nat} {cs : Array Value} {T : TypeId} (h : w.heap.size = k) : Box (w.alloc (.cells cs T)) k cs T := by subst h; exact Box.new w cs T
theorem Box.drew {w : World} {k : Nat} {cs : Array Value} {T : TypeId} (h : Box w k cs T) : Box w.drew k cs T := h
theorem Box.use {w w' : World} {k : Nat} {cs : Array Value} {T : TypeId} {G : Prop} (hb : Below w.heap.size w w') (b : Box w k cs T) (h : Box w' k cs T → G) : G := h (b.below hb)
theorem Box.put2 {w : World} {k : Nat} {a b v0 v1 : Value} {T : TypeId} (h : Box w k #[a, b] T) : Box ((w.setCell ⟨k, 0, none⟩ v0).setCell ⟨k, 1, none⟩ v1) k #[v0, v1] T := by
  have := (Box.set h 0 v0).set 1 v1
  simpa using this
theorem Below.use {a w w' : World} {B : Nat} {G : Prop} (hb : Below w.heap.size w w') (h : Below B a w) (hB : B ≤ w.heap.size) (k : Below B a w' → G) : G := k (h.trans (hb.mono hB))
theorem Below.dr {a w : World} {B : Nat} (h : Below B a w) : Below B a w.drew := below_drewN h 1
theorem size_tree : (Try.prog.info? 58).map (·.size) = some 2 := by kernel_rfl
theorem PvW.but2 {w w' : World} {gp n ga gt : Nat} {pv : Nat → List Int} (h : PvW w gp n ga pv) (h2 : PvW w gp n gt pv) (hb : But gt w w') : PvW w' gp n ga pv := by
  obtain ⟨p1, p2, p3⟩ := h2.but hb
  refine ⟨p1, h.2.1, fun b hbn => ?_⟩
  obtain ⟨A, c, c1, c2, c3, c4, c5⟩ := p3 b hbn
  obtain ⟨A', c', d1, d2, d3, d4, d5⟩ := h.2.2 b hbn
  have e : w'.cell? ⟨gp, b, none⟩ = w.cell? ⟨gp, b, none⟩ := World.cell?_of_block (a := ⟨gp, b, none⟩) (hb.block gp h.1 h2.2.1)
  rw [e, d1] at c1
  injection c1 with c1
  injection c1 with c1 _ _
  subst c1
  exact ⟨A', c, by rw [e, d1]; congr 2, c2, c3, c4, d5⟩
def TnL (w7 : World) (gt n : Nat) (o : List Int) (k : Nat) (wr : World) : Prop := TnW wr gt n (tnO (o.take k)) ∧ But gt w7 wr
theorem TnL.step {w7 wr : World} {gt n k b : Nat} {o : List Int} (h : TnL w7 gt n o k wr) (hn : o.Nodup) (hy : o[k]? = some (b : Int)) : TnL w7 gt n o (k + 1) (wr.setCell ⟨gt, b, none⟩ (.int .i64 (k : Int))) := by
  refine ⟨?_, h.2.set⟩
  have hk := (List.getElem?_eq_some_iff.1 hy).1
  rw [take_snocI hy, tnO_snoc (nodup_take hn hy), List.length_take, Nat.min_eq_left (Nat.le_of_lt hk)]
  exact h.1.set
def GrL (w8 : World) (ga n m : Nat) (tn : Nat → Nat) (R : Nat → Prop) (pv : Nat → List Int) (D : Nat → Nat → Prop) (k : Nat) (wr : World) : Prop := ∃ A, farA m tn A = k ∧ GI n tn R pv D 1 A ∧ AbW wr ga A ∧ But ga w8 wr
def GStart (w1 : World) (base n : Nat) (p : Value) (w' : World) : Prop := ∃ h4 ga gt, p = .pointer (some ⟨h4, 0, none⟩) ∧ Box w' h4 #[.slice (some ⟨ga, 0, none⟩) n n, .slice (some ⟨gt, 0, none⟩) n n] 58 ∧ AbW w' ga (List.replicate n (-1)) ∧ TnW w' gt n (fun _ => 0) ∧
  ga ≠ gt ∧ base ≤ h4 ∧ base ≤ ga ∧ base ≤ gt ∧ Below base w1 w'
theorem gstart_of {w1 w' : World} {base n h4 ga gt : Nat} {mc : Array Value} (hmc : mc = ((List.replicate n (0 : Int)).map (Value.int .i64)).toArray) (b : Box w' h4 #[.slice (some ⟨ga, 0, none⟩) n n, .slice (some ⟨gt, 0, none⟩) n n] 58) (ha : Box w' ga (((List.replicate n (-1 : Int)).map (Value.int .i64)).toArray) 3) (hm : Box w' gt mc 3)
    (h1 : ga ≠ gt) (h2 : base ≤ h4) (h3 : base ≤ ga) (h5 : base ≤ gt) (hb : Below base w1 w') : GStart w1 base n (.pointer (some ⟨h4, 0, none⟩)) w' := ⟨h4, ga, gt, rfl, b, ha, TnW.zero hm hmc, h1, h2, h3, h5, hb⟩
set_option maxHeartbeats 2000000 in
set_option maxRecDepth 100000 in
theorem grow_any (vk vb vs : Value) (f : FunV) (w : World) (B : Nat) (hB : B ≤ w.heap.size) (hi : FunI w (· < B) vk vb vs f) (hok : FlowOk f) (h1 : 1 ≤ f.blocks.length) :
    Calls Try.prog 39 #[.agg #[vk, vb, .int .i64 f.params, .int .i64 f.result, vs]] w fun e w' => ∃ ga gt o A, e = .returned (.agg #[.slice (some ⟨ga, 0, none⟩) f.blocks.length f.blocks.length, .slice (some ⟨gt, 0, none⟩) f.blocks.length f.blocks.length]) ∧
      OrderOf f o ∧ AbW w' ga A ∧ TnW w' gt f.blocks.length (tnO o) ∧ w.heap.size ≤ ga ∧ w.heap.size ≤ gt ∧ Rest f.blocks.length (tnO o) (rO o) (fun b => prevN f (b : Int)) (Dmn f) A ∧ Below w.heap.size w w' := by
  have HOR := hide (fun (W : World) (hW : Below w.heap.size w W) => forder_any vk vb vs f W B (by have := hW.size; omega) (hi.keep (up hW hB) (fun _ h => h)) hok h1)
  have HCM := hide (fun (W : World) (hW : Below w.heap.size w W) => dcomes_any vk vb vs f W B (by have := hW.size; omega) (hi.keep (up hW hB) (fun _ h => h)) hok)
  have HGR := hide (fun (o : List Int) (h : OrderOf f o) => gr_of hok h1 h)
  have HRO := hide (fun (o : List Int) (h : OrderOf f o) => order_reach hok h1 h)
  have HRNG := hide (fun (o : List Int) (h : OrderOf f o) (y : Int) (hy : y ∈ o) => (show 0 ≤ y ∧ y < (f.blocks.length : Int) from (order_reach hok h1 h).rng y hy))
  have HOL := hide (fun (o : List Int) (h : OrderOf f o) => order_len hok h1 h)
  obtain ⟨Ak, ck, rfl, hck, hmk⟩ := hi.1.open'
  obtain ⟨Ab, cb, rfl, hcb, hmb⟩ := hi.2.1.open'
  obtain ⟨As, cs, rfl, hcs, hms⟩ := hi.2.2.1.open'
  have hls40 := hok.1
  have HP80 := hide (fun b : Nat => prevN_len80 hok (b : Int))
  have hmake : ∀ W : World, (Instr.makeSlice 27 (.int .i64 (f.blocks.length : Int)) (.int .i64 (f.blocks.length : Int))).run Try.prog W = .ok (.slice (some ⟨W.heap.size, 0, none⟩) f.blocks.length f.blocks.length) (W.alloc (.cells (madeCells (Value.int .i64 0).cells (f.blocks.length * 1)) 3)) := fun W => mk_run 27 3 Try.underlying27 info_i64 (by omega) f.blocks.length (by omega) W
  obtain ⟨mc, hmc⟩ : ∃ mc, madeCells (Value.int .i64 0).cells (f.blocks.length * 1) = mc := ⟨_, rfl⟩
  rw [hmc] at hmake
  have HMC := hide (show mc = ((List.replicate f.blocks.length (0 : Int)).map (Value.int .i64)).toArray by rw [← hmc]; exact madeCells_int _)
  have HREP := hide (fun (W : World) (bx : Nat) hx hbx => repeat_any f.blocks.length (-1) bx W h1 hls40 hx hbx)
  generalize f.kinds.length = lk, f.base.length = lb, f.blocks.length = ls, f.params = fp, f.result = fr at *
  clear hi hok hmc
  go_enter Try.func39, Try.ntmps39
  go_upto_region 2 with (fail)
  obtain ⟨w1, hw1⟩ : ∃ w1, w1 = (w.alloc (.cells #[.slice Ak lk ck, .slice Ab lb cb, .int .i64 fp, .int .i64 fr, .slice As ls cs] 30)).alloc (.cells #[.slice none 0 0, .slice none 0 0] 58) := ⟨_, rfl⟩
  obtain ⟨g1, hg1⟩ : ∃ g1, w.heap.size = g1 := ⟨_, rfl⟩
  have HX1 := hide (show Box w1 g1 #[.slice Ak lk ck, .slice Ab lb cb, .int .i64 fp, .int .i64 fr, .slice As ls cs] 30 by rw [hw1, ← hg1]; exact (Box.new w _ _).alloc _)
  have HR1 := hide (show Box w1 (g1 + 1) #[.slice none 0 0, .slice none 0 0] 58 by rw [hw1, ← hg1]; have h := Box.new (w.alloc (.cells #[.slice Ak lk ck, .slice Ab lb cb, .int .i64 fp, .int .i64 fr, .slice As ls cs] 30)) #[.slice none 0 0, .slice none 0 0] 58; rw [World.size_alloc] at h; exact h)
  have HB1 := hide (show Below w.heap.size w w1 by rw [hw1]; exact (alloc1 w _).alloc (by rw [World.size_alloc]; omega) _)
  have hs1 : w1.heap.size = g1 + 1 + 1 := by rw [hw1, World.size_alloc, World.size_alloc, hg1]
  have hwg : w.heap.size ≤ g1 := by omega
  rw [← hw1, hg1]
  have HS1 := hide hs1
  clear hw1 hg1 hs1
  go_cut [4] from 12 (fun p wx => GStart w1 w1.heap.size ls p wx)
  case first =>
    go_region_law
      (first
        | (rw [if_pos (by rfl)]; go_simp; go_at_call 52; refine (HREP.out _ _ (Box.cell (cs := #[.int .i64 (-1)]) (T := 3) ?_ 0 rfl).1 ?_).mono ?_; (focus ((repeat (first | (with_reducible refine Box.newAt ?_; (first | (simp; done) | (simp; omega))) | with_reducible apply Box.alloc | with_reducible apply Box.drew)); done)); (focus (first | (simp; done) | (simp; omega))); rintro e w5 ⟨g5, rfl, hg5, ha5, hb5⟩; refine Below.use (a := w1) (B := w1.heap.size) hb5 ?_ ?_ (fun hbb => ?_); (focus (repeat (first | exact Below.refl _ _ | with_reducible apply Below.dr | (with_reducible refine Below.alloc ?_ ?_ _; rotate_left; (focus (first | (simp; done) | (simp; omega))))))); (focus (first | (simp; done) | (simp; omega))); (simp at hg5); have hz5 := hb5.size; (simp at hz5); have hl5 := Box.lt ha5; (first | (refine Box.use (k := w1.heap.size) (cs := #[.slice none 0 0, .slice none 0 0]) (T := 58) hb5 ?_ (fun qa => ?_); (focus ((repeat (first | (with_reducible refine Box.newAt ?_; (first | (simp; done) | (simp; omega))) | with_reducible apply Box.alloc | with_reducible apply Box.drew)); done)); have qa0 := (Box.cell qa 0 (v := .slice none 0 0) rfl).1; have qa1 := (Box.cell qa 0 (v := .slice none 0 0) rfl).2; have qa2 := (Box.cell qa 1 (v := .slice none 0 0) rfl).1; have qa3 := (Box.cell qa 1 (v := .slice none 0 0) rfl).2; have qa4 := qa.lt) | skip); (first | (refine Box.use (k := w1.heap.size + 1) (cs := #[.slice none 0 0, .slice none 0 0]) (T := 58) hb5 ?_ (fun qb => ?_); (focus ((repeat (first | (with_reducible refine Box.newAt ?_; (first | (simp; done) | (simp; omega))) | with_reducible apply Box.alloc | with_reducible apply Box.drew)); done)); have qb0 := (Box.cell qb 0 (v := .slice none 0 0) rfl).1; have qb1 := (Box.cell qb 0 (v := .slice none 0 0) rfl).2; have qb2 := (Box.cell qb 1 (v := .slice none 0 0) rfl).1; have qb3 := (Box.cell qb 1 (v := .slice none 0 0) rfl).2; have qb4 := qb.lt) | skip); (first | (refine Box.use (k := w1.heap.size + 1 + 1) (cs := #[.slice none 0 0, .slice none 0 0]) (T := 58) hb5 ?_ (fun qc => ?_); (focus ((repeat (first | (with_reducible refine Box.newAt ?_; (first | (simp; done) | (simp; omega))) | with_reducible apply Box.alloc | with_reducible apply Box.drew)); done)); have qc0 := (Box.cell qc 0 (v := .slice none 0 0) rfl).1; have qc1 := (Box.cell qc 0 (v := .slice none 0 0) rfl).2; have qc2 := (Box.cell qc 1 (v := .slice none 0 0) rfl).1; have qc3 := (Box.cell qc 1 (v := .slice none 0 0) rfl).2; have qc4 := qc.lt) | skip)))
    all_goals (go_wp2_with fail; go_meet)
    all_goals
      unfold AbW at ha5
      apply gstart_of HMC.out
      · (repeat (first | assumption | (with_reducible refine Box.newAt ?_; (first | (simp; done) | (simp; omega))) | with_reducible apply Box.put2 | with_reducible apply Box.alloc | with_reducible apply Box.drew | (with_reducible refine Box.other ?_ (by omega)) | (refine Box.below ?_ hb5)))
      · (repeat (first | assumption | (with_reducible refine Box.newAt ?_; (first | (simp; done) | (simp; omega))) | with_reducible apply Box.put2 | with_reducible apply Box.alloc | with_reducible apply Box.drew | (with_reducible refine Box.other ?_ (by omega)) | (refine Box.below ?_ hb5)))
      · (repeat (first | assumption | (with_reducible refine Box.newAt ?_; (first | (simp; done) | (simp; omega))) | with_reducible apply Box.put2 | with_reducible apply Box.alloc | with_reducible apply Box.drew | (with_reducible refine Box.other ?_ (by omega)) | (refine Box.below ?_ hb5)))
      · omega
      · omega
      · omega
      · omega
      · repeat (first | assumption | (with_reducible refine Below.setCell (p := _) ?_ ?_ _; rotate_left; (focus (first | (simp; done) | (simp; omega)))) | (with_reducible refine Below.alloc ?_ ?_ _; rotate_left; (focus (first | (simp; done) | (simp; omega) | omega))))
  case rest =>
    obtain ⟨h4, ga, gt, rfl, hx4, ha, ht, hne, b4, ba, bt, hb⟩ := hcut
    have hsc := hb.size
    have HXC := hide (HX1.out.below hb)
    have HRC := hide (HR1.out.below hb)
    have HBC := hide (HB1.out.trans (hb.mono HB1.out.size))
    have HX4 := hide hx4
    have HA := hide ha
    have HT := hide ht
    have c0 := (HXC.out.cell 0 (v := .slice Ak lk ck) rfl).1
    have c1 := (HXC.out.cell 1 (v := .slice Ab lb cb) rfl).1
    have c2 := (HXC.out.cell 2 (v := .int .i64 fp) rfl).1
    have c3 := (HXC.out.cell 3 (v := .int .i64 fr) rfl).1
    have c4 := (HXC.out.cell 4 (v := .slice As ls cs) rfl).1
    have lc := HXC.out.lt
    have l4 := hx4.lt
    have la : ga < wc.heap.size := Box.lt ha
    have lt : gt < wc.heap.size := Box.lt ht
    have HK := hide (fun (W : World) (hW : Below wc.heap.size wc W) => And.intro ((HXC.out.below hW).cell 0 (v := .slice Ak lk ck) rfl).1 (And.intro ((HXC.out.below hW).cell 1 (v := .slice Ab lb cb) rfl).1 (And.intro ((HXC.out.below hW).cell 2 (v := .int .i64 fp) rfl).1 (And.intro ((HXC.out.below hW).cell 3 (v := .int .i64 fr) rfl).1 ((HXC.out.below hW).cell 4 (v := .slice As ls cs) rfl).1))))
    have HUP := hide (fun (W : World) (hW : Below wc.heap.size wc W) => HBC.out.trans (hW.mono HBC.out.size))
    have hwc := HBC.out.size
    have hs1 := HS1.out
    have hgw1 : w.heap.size ≤ ga ∧ w.heap.size ≤ gt ∧ w.heap.size ≤ h4 ∧ g1 + 1 ≠ ga ∧ g1 + 1 ≠ gt ∧ g1 + 1 < wc.heap.size := by omega
    have HGW := hide hgw1
    clear hx4 ha ht hb hs1 hgw1
    go_upto_region 3 with (fail)
    go_region_held3 (fun w' => w'.cell? ⟨g1, 0, none⟩ = some (.slice Ak lk ck) ∧ w'.cell? ⟨g1, 1, none⟩ = some (.slice Ab lb cb) ∧ w'.cell? ⟨g1, 2, none⟩ = some (.int .i64 fp) ∧ w'.cell? ⟨g1, 3, none⟩ = some (.int .i64 fr) ∧ w'.cell? ⟨g1, 4, none⟩ = some (.slice As ls cs)) (first | go_keep | (exact q7) | (exact q6))
      (first
        | (go_at_call 53; refine (HCM.out w6 (HUP.out w6 HC6.out)).mono ?_; rintro e w7 ⟨gp, rfl, hgp, hpv, hb7⟩; have hc7 := HC6.out.trans (hb7.mono HC6.out.size); have q7 := HK.out w7 hc7; have HB7 := hide hb7; have HPV := hide hpv; have HC7 := hide hc7; clear hb7 hc7 hpv)
        | (go_at_call 14; refine (HOR.out _ (HUP.out _ (below_drewN (Below.refl _ _) 1))).mono ?_; rintro e w6 ⟨v6, o, rfl, hO, ho6, hb6⟩; have hc6 : Below wc.heap.size wc w6 := ⟨hb6.os, hb6.tape, hb6.output, hb6.size, hb6.block⟩; have q6 := HK.out w6 hc6; have HO := hide hO; have HOW := hide (show Ow w6 wc.heap.size 3 .i64 v6 o from ho6); have HC6 := hide hc6; clear hb6 hc6 ho6 hO))
    all_goals
      obtain ⟨Ao, co, rfl, hco, hmo, hso⟩ := HOW.out.sl
      have HOA := hide (show ∀ b k, Ao = some ⟨b, k, none⟩ → b ≠ ga ∧ b ≠ gt from fun b k e => by
        have := (World.ownsRow.lt HOW.out b (by rw [e]; rfl)).1
        omega)
      have hs6 := HC6.out.size
      have hs7 := HB7.out.size
      have HSO := hide ((hso.below HB7.out).more HB7.out.size)
      have HR := hide (HRO.out o HO.out)
      have HG := hide (HGR.out o HO.out)
      have hol : o.length ≤ 40 := HOL.out o HO.out
      have hop : 1 ≤ o.length := List.length_pos_iff.2 (List.ne_nil_of_mem HR.out.zer)
      have HX7 := hide (HX4.out.below HC7.out)
      have HA7 := hide (HA.out.below HC7.out)
      have HT7 := hide (show TnL w7 gt ls o 0 w7 from ⟨by rw [List.take_zero, tnO_nil]; exact HT.out.below HC7.out, But.refl _ _⟩)
      have HR7 := hide (HRC.out.below HC7.out)
      have HPA := hide (HPV.out ga (by omega))
      have HPT := hide (HPV.out gt (by omega))
      obtain ⟨m, hm⟩ : ∃ m, o.length = m := ⟨_, rfl⟩
      have HM := hide hm
      have h4t : h4 ≠ gt := HX7.out.apart (HT7.out.1) (by decide)
      have h4a : h4 ≠ ga := HX7.out.apart HA7.out (by decide)
      have lx7 := HX7.out.lt
      have HNO := hide HR.out.nod
      have HORR := hide (fun (i : Nat) (y : Int) (h : o[i]? = some y) => (show ∃ b : Nat, y = b ∧ rO o b ∧ tnO o b = i ∧ b < ls by
        have h8 := HRNG.out o HO.out y (List.mem_of_getElem? h)
        obtain ⟨b, rfl⟩ : ∃ b : Nat, y = b := ⟨y.toNat, by omega⟩
        exact ⟨b, rfl, List.mem_of_getElem? h, tnO_get HNO.out h, by omega⟩))
      rw [hm] at hco hol hop HG ⊢
      clear c0 c1 c2 c3 c4 hso hm
      go_wp2
      go_loopw [24] (fun i wr => ∃ k : Nat, k ≤ m ∧ i = .int .i64 (k : Int) ∧ Hid (TnL w7 gt ls o k wr)) (fun i _ => m - (intOf i).toNat)
      case atStart => exact ⟨0, Nat.zero_le _, rfl, HT7⟩
      case round =>
        obtain ⟨k, hk, rfl, hin⟩ := hrel
        obtain ⟨wo, rfl⟩ : ∃ wo, wo = wr := ⟨_, rfl⟩
        have HTL := hide hin.out
        have HBT := hide hin.out.2
        have hzo := HBT.out.size
        clear hin
        by_cases hlt : k < m
        case pos =>
          obtain ⟨y, hy⟩ : ∃ y, o[k]? = some y := ⟨_, List.getElem?_eq_getElem (by have := HM.out; omega)⟩
          obtain ⟨b, rfl, -, -, hbl⟩ := HORR.out k y hy
          obtain ⟨be, oe, rfl, hbe, hce⟩ := HSO.out (by have := HM.out; omega)
          have hbn := (HOA.out be oe rfl).2
          have d1 := (World.cell?_of_block (a := ⟨be, oe + k, none⟩) (HBT.out.block be hbe hbn)).trans (hce k (by have := HM.out; omega))
          rw [show o.getD k 0 = (b : Int) by simp [List.getD, hy]] at d1
          have hbs : be < wo.heap.size := by omega
          have HXO := hide (HBT.out.box HX7.out h4t)
          have lo := HXO.out.lt
          have x1 := (HXO.out.cell 1 (v := .slice (some ⟨gt, 0, none⟩) ls ls) rfl).1
          obtain ⟨t1, t2⟩ := HTL.out.1.cell hbl
          have ltw : gt < wo.heap.size := Box.lt HTL.out.1
          have HN := hide (HTL.out.step HNO.out hy)
          have hb0 : (0 : Int) ≤ (b : Int) := by omega
          have hb1 : (b : Int) < (ls : Int) := by omega
          clear hce hbe hy hbn
          go_wp2
          go_roundw
          case rel => exact ⟨k + 1, by omega, by go_num, HN⟩
          case measure => simp [intOf]; omega
        have HTF := hide (show TnW wo gt ls (tnO o) by
          have h := HTL.out.1
          rw [List.take_of_length_le (by have := HM.out; omega)] at h
          exact h)
        have HAF := hide (show AbW wo ga (List.replicate ls (-1)) from HBT.out.box HA7.out hne)
        have HXF := hide (HBT.out.box HX7.out h4t)
        have HRF := hide (HBT.out.box HR7.out HGW.out.2.2.2.2.1)
        have HPF := hide (HPA.out.but2 HPT.out HBT.out)
        have HSF := hide ((HBT.out.sl HSO.out (Nat.le_refl _) (fun b k e => (HOA.out b k e).2)).more hzo)
        have HBF := hide (HBT.out.below (HUP.out w7 HC7.out) HGW.out.2.1 (by omega))
        have HL0 := hide (show GrL wo ga ls m (tnO o) (rO o) (fun b => prevN f (b : Int)) (Dmn f) (farA m (tnO o) (List.replicate ls (-1))) wo from ⟨_, rfl, GI.start HG.out, HAF.out, But.refl _ _⟩)
        clear HT7 HTL
        go_wp2
        go_loopg [] (farA m (tnO o) (List.replicate ls (-1))) (fun k wr => GrL wo ga ls m (tnO o) (rO o) (fun b => prevN f (b : Int)) (Dmn f) k wr)
        case atStart => exact HL0.out
        case round =>
          obtain ⟨A, hfk, hgi, hab, hbt⟩ := hrel
          obtain ⟨wi, rfl⟩ : ∃ wi, wi = wr := ⟨_, rfl⟩
          have HBI := hide hbt
          have hzi := hbt.size
          have HCP := hide (dpass_any HG.out A hgi h1 hls40 hop hol o HM.out (fun i y h => by obtain ⟨b, e1, e2, e3, -⟩ := HORR.out i y h; exact ⟨b, e1, e2, e3⟩) HP80.out ga gt gp Ao co hco hmo wi hab (HTF.out.but hbt (fun e => hne e.symm)) (fun e => hne e.symm) (HPF.out.but hbt) ((hbt.sl HSF.out (Nat.le_refl _) (fun b k e => (HOA.out b k e).1)).more hzi) (fun b k e => (HOA.out b k e).1))
          have HXI := hide (hbt.box HXF.out h4a)
          have lxi := HXI.out.lt
          have x0 := (HXI.out.cell 0 (v := .slice (some ⟨ga, 0, none⟩) ls ls) rfl).1
          have x1 := (HXI.out.cell 1 (v := .slice (some ⟨gt, 0, none⟩) ls ls) rfl).1
          have HFK := hide hfk
          clear hfk hgi hab hbt
          go_wp2_with (go_at_call 54; refine (HCP.out).mono ?_; rintro e w9 ⟨mv, A', rfl, ha9, hg9, hb9, hy9, hn9⟩; have HA9 := hide ha9; have HG9 := hide hg9; have HB9 := hide (HBI.out.trans hb9); have HY9 := hide hy9; have HN9 := hide hn9; have hz9 := hb9.size; have HX9 := hide (HB9.out.box HXF.out h4a); have HR9 := hide (HB9.out.box HRF.out HGW.out.2.2.2.1); clear ha9 hg9 hb9 hy9 hn9 x0 x1; have l9 := HX9.out.lt; have lr9 := HR9.out.lt; have x0 := (HX9.out.cell 0 (v := .slice (some ⟨ga, 0, none⟩) ls ls) rfl).1; have x1 := (HX9.out.cell 1 (v := .slice (some ⟨gt, 0, none⟩) ls ls) rfl).1; have r0 := (HR9.out.cell 0 (v := .slice none 0 0) rfl).1; have r1 := (HR9.out.cell 1 (v := .slice none 0 0) rfl).1; have s0 := (HR9.out.cell 0 (v := .slice none 0 0) rfl).2; have s1 := (HR9.out.cell 1 (v := .slice none 0 0) rfl).2)
          · go_roundg (farA m (tnO o) A')
            case measure => have := HY9.out (by assumption); have := HFK.out; omega
            case rel => exact ⟨A', rfl, HG9.out, HA9.out, HB9.out⟩
          · rename_i hmv
            have hmv' : mv = false := by cases mv <;> simp_all
            have hq := HGW.out
            have HRE := hide (HN9.out hmv')
            have HR10 := hide (HR9.out.put2 (v0 := .slice (some ⟨ga, 0, none⟩) ls ls) (v1 := .slice (some ⟨gt, 0, none⟩) ls ls))
            have HA10 := hide (show AbW _ ga A' from (Box.other (Box.other (g := g1 + 1) (j := 0) (v := .slice (some ⟨ga, 0, none⟩) ls ls) HA9.out (by omega)) (g := g1 + 1) (j := 1) (v := .slice (some ⟨gt, 0, none⟩) ls ls) (by omega)))
            have HT10 := hide (show TnW _ gt ls (tnO o) from (Box.other (Box.other (g := g1 + 1) (j := 0) (v := .slice (some ⟨ga, 0, none⟩) ls ls) (HTF.out.but HB9.out (fun e => hne e.symm)) (by omega)) (g := g1 + 1) (j := 1) (v := .slice (some ⟨gt, 0, none⟩) ls ls) (by omega)))
            have HB10 := hide (((HB9.out.below HBF.out hq.1 (by have := HBF.out.size; omega)).setCell (p := ⟨g1 + 1, 0, none⟩) (by show w.heap.size ≤ g1 + 1; omega) (.slice (some ⟨ga, 0, none⟩) ls ls)).setCell (p := ⟨g1 + 1, 1, none⟩) (by show w.heap.size ≤ g1 + 1; omega) (.slice (some ⟨gt, 0, none⟩) ls ls))
            (try simp only [Exit.inBlock, Exit.then])
            refine bodyPost_ret (results_cell_row rfl _ _ (g1 + 1) 58 #[.slice (some ⟨ga, 0, none⟩) ls ls, .slice (some ⟨gt, 0, none⟩) ls ls] (0, 0) _ (by rfl) HR10.out Try.underlying58 rfl size_tree) rfl ?_
            exact ⟨ga, gt, o, A', rfl, HO.out, HA10.out, HT10.out, hq.1, hq.2.1, HRE.out, HB10.out⟩
end Go.Proofs.Ytkpikgakphdjjaa
