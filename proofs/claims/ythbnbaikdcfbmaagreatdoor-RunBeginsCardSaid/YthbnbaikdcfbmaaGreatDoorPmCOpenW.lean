/- Texts of several names, of which only what the statement needs is kept. -/
import Derived.Test.YthbnbaikdcfbmaaGreatDoorPmKW
import Derived.ProofKit
import Derived.OpenShut
import Derived.Deep.Fields
import Derived.LaidMore
import Derived.Stop.Joined
import Derived.Laws.Cover1
set_option linter.unusedSimpArgs false
set_option linter.unusedVariables false
set_option maxRecDepth 100000
namespace Go.Proofs.YthbnbaikdcfbmaaGreatDoor
open Go.ChangeShapes Go.WideShapes Go.ChangeAt Go.RowKit Go.Deep
theorem own : ownKnob Tryz.prog.godebug = none := by kernel_rfl
theorem jra : laidOutB Tryz.prog = true := by kernel_rfl
theorem cells_u8 : Tryz.prog.cellsOf 5 = 1 := by kernel_rfl
theorem jsi : Tryz.prog.cellsOf 3 = 1 := by kernel_rfl
theorem jsh : Tryz.prog.cellsOf 9 = 1 := by kernel_rfl
section
variable {H : Type} {enc : TypeId × Value -> H} {W : World}
theorem int_R {n : Int} (h : (Lit.int .i64 n).wf = true) : i64R n := bounds_i64 h
def jbj (P : Program) (t : TypeId) : Array Field := match P.underlying t with | some (.struct fs) => fs | _ => #[]
theorem hone_Ins : oneCellFields Tryz.prog (jbj Tryz.prog 57) = true := by kernel_rfl
theorem jry : oneCellFields Tryz.prog (jbj Tryz.prog 52) = true := by kernel_rfl
theorem jou : oneCellFields Tryz.prog (jbj Tryz.prog 55) = true := by kernel_rfl
theorem jrx : oneCellFields Tryz.prog (jbj Tryz.prog 24) = true := by kernel_rfl
theorem jpt : (jbj Tryz.prog 57).toList.map (·.type) = [3, 3, 3, 3, 3, 3, 32] := by kernel_rfl
theorem jo2 : (jbj Tryz.prog 52).toList.map (·.type) = [32, 32, 3, 3, 50] := by kernel_rfl
theorem jlu : (jbj Tryz.prog 55).toList.map (·.type) = [53] := by kernel_rfl
theorem jo1 : (jbj Tryz.prog 24).toList.map (·.type) = [22] := by kernel_rfl
theorem jc8 {fuel : Nat} {u : Value} {x : DataW H × List MemPlace} (h : DataW.trod enc Tryz.prog W 0 (fun _ => true) true fuel 3 [u] = some x) : ∃ z, u = .int .i64 z /\ i64R z := by
 obtain ⟨z, e, -, hw⟩ := DataW.trod_int Tryz.underlying3 h
 simp at e
 exact ⟨z, e, int_R hw⟩
theorem jsj : Tryz.prog.cellsOf 57 = 7 := by kernel_rfl
theorem jp6 : Tryz.prog.cellsOf 52 = 5 := by kernel_rfl
theorem jmp : Tryz.prog.cellsOf 55 = 1 := by kernel_rfl
theorem jp5 : Tryz.prog.cellsOf 24 = 1 := by kernel_rfl
end
theorem gCodeZ : Tryz.prog.globalNamed "portolan/code.parts" = some 1 := by kernel_rfl
theorem tCodeZ : (Tryz.prog.globals[1]?).map (·.type) = some 192 := by kernel_rfl
theorem gRow : Tryz.prog.globalNamed "portolan/kind.rows" = some 0 := by kernel_rfl
theorem tRow : (Tryz.prog.globals[0]?).map (·.type) = some 168 := by kernel_rfl
theorem u_rows : Tryz.prog.underlying 168 = some (.array 24 167) := by kernel_rfl
theorem u_row : Tryz.prog.underlying 167 = some (.array 3 5) := by kernel_rfl
theorem u_u8 : Tryz.prog.underlying 5 = some (.int .u8) := by kernel_rfl
theorem c_row : Tryz.prog.cellsOf 167 = 3 := by kernel_rfl
def jkr : List (String × DataW Unit) := [("portolan/code.parts", Rows.laid_portolan_code_parts), ("portolan/kind.rows", Rows.laid_portolan_kind_rows)]
theorem jld (os : Os) (args : Array Value) : laidMetH Tryz.prog jkr ((World.doorLaid Tryz.prog 400 os).forCall (fun _ _ => 0) ⟨#[], args, []⟩).memory :=
 laidMetH_of_parts3 (fuel := 8) (laidMet_of_run' 8 (by kernel_rfl) (by kernel_rfl)) (by kernel_rfl) (by kernel_rfl)
theorem jom : (Rows.laid_portolan_code_parts : DataW Unit) = .agg (partsT.map fun l => .lit (.string (l.map UInt8.ofNat))) := by rfl
theorem jon : (Rows.laid_portolan_kind_rows : DataW Unit) = .agg (rowsT.map fun l => .agg (l.map fun n => .lit (.int .u8 ((n : Nat) : Int)))) := by rfl
theorem jn8 {W : World} (h : laidMetH Tryz.prog jkr W) : TabP W /\ RowP W := by
 rw [MakeChecks.laidMetH_plain _ _ _ (by kernel_rfl)] at h
 obtain ⟨ps, ⟨g0, t0, cs0, f0, p0, q0, hg0, ht0, hv0, hd0, hrest, _⟩, _, _⟩ := h
 obtain ⟨g1, t1, cs1, f1, p1, q1, hg1, ht1, hv1, hd1, _, _⟩ := hrest
 obtain rfl := Option.some.inj (gCodeZ.symm.trans hg0)
 obtain rfl := Option.some.inj (tCodeZ.symm.trans ht0)
 obtain rfl := Option.some.inj (gRow.symm.trans hg1)
 obtain rfl := Option.some.inj (tRow.symm.trans ht1)
 constructor
 ·obtain ⟨xs, m1, rfl, hx1, hlen, hn, hel⟩ := DataW.trod_array Tryz.underlying192 hd0
  rw [jom] at hx1
  simp only [Prod.mk.injEq, DataW.agg.injEq] at hx1
  have hcell : ∀ j, j < 24 -> W.cell? ⟨1, j, none⟩ = some (.string (jaf (partsT.getD j []))) := fun j hj => by
   have h1 := hel j hj
   rw [jsh, Nat.mul_one] at h1
   obtain ⟨x, hx⟩ : ∃ x, xs[j]? = some x := ⟨_, List.getElem?_eq_getElem (by omega)⟩
   rw [hx] at h1
   obtain ⟨k, e1, e2, _⟩ := DataW.trod_string Tryz.underlying9 h1
   have h2 : (xs.map (·.1))[j]? = some x.1 := by rw [List.getElem?_map, hx]; rfl
   rw [<- hx1.1, List.getElem?_map] at h2
   have hlt : j < partsT.length := hj
   rw [List.getElem?_eq_getElem hlt, e2] at h2
   simp only [Option.map_some, Option.some.injEq, DataW.lit.injEq, Lit.string.injEq] at h2
   have h3 := World.var?_cell hg0 hv0 j
   rw [h3, <- Array.getElem?_toList]
   have h4 := congrArg (fun l => l[0]?) e1
   simp only [List.getElem?_cons_zero] at h4
   rw [List.getElem?_take_of_lt (by omega), List.getElem?_drop, Nat.add_zero] at h4
   rw [h4]
   have h5 : k = jaf (partsT.getD j []) := by
    obtain ⟨⟨l⟩⟩ := k
    simp only at h2
    unfold jaf
    rw [List.getD, List.getElem?_eq_getElem hlt, Option.getD_some, h2]
   rw [h5]
  refine ⟨?_, hcell⟩
  rcases Nat.lt_or_ge 1 W.heap.size with h0 | h0
  ·exact h0
  ·have h1 := hcell 0 (by omega)
   rw [World.cell?, Array.getElem?_eq_none (by show W.heap.size <= 1; omega)] at h1
   cases h1
 ·obtain ⟨xs, m1, rfl, hx1, hlen, hn, hel⟩ := DataW.trod_array u_rows hd1
  rw [jon] at hx1
  simp only [Prod.mk.injEq, DataW.agg.injEq] at hx1
  have hcell : ∀ j i : Nat, j < 24 -> i < 3 -> W.cell? ⟨0, j * 3 + i, none⟩ = some (.int .u8 ((rowN (j : Int) i : Nat) : Int)) := fun j i hj hi => by
   have h1 := hel j hj
   rw [c_row] at h1
   obtain ⟨x, hx⟩ : ∃ x, xs[j]? = some x := ⟨_, List.getElem?_eq_getElem (by omega)⟩
   rw [hx] at h1
   obtain ⟨ys, m2, -, hy1, hlen2, hn2, hel2⟩ := DataW.trod_array u_row h1
   have h2 := hel2 i hi
   rw [cells_u8, Nat.mul_one] at h2
   obtain ⟨y, hy⟩ : ∃ y, ys[i]? = some y := ⟨_, List.getElem?_eq_getElem (by omega)⟩
   rw [hy] at h2
   obtain ⟨n, e1, e2, -⟩ := DataW.trod_int u_u8 h2
   have h3 : (xs.map (·.1))[j]? = some x.1 := by rw [List.getElem?_map, hx]; rfl
   have hlt : j < rowsT.length := hj
   rw [<- hx1.1, List.getElem?_map, List.getElem?_eq_getElem hlt, hy1] at h3
   simp only [Option.map_some, Option.some.injEq, DataW.agg.injEq] at h3
   have h4 : (ys.map (·.1))[i]? = some y.1 := by rw [List.getElem?_map, hy]; rfl
   rw [<- h3, e2, List.getElem?_map] at h4
   have h5 : n = ((rowN (j : Int) i : Nat) : Int) := by
    unfold rowN
    rw [Int.toNat_natCast, List.getD, List.getD, List.getElem?_eq_getElem hlt, Option.getD_some]
    cases hr : rowsT[j][i]? with
    | none => rw [hr] at h4; cases h4
    | some r =>
     rw [hr] at h4
     simp only [Option.map_some, Option.some.injEq, DataW.lit.injEq, Lit.int.injEq] at h4
     rw [Option.getD_some]
     exact h4.2.symm
   have h6 := World.var?_cell hg1 hv1 (j * 3 + i)
   rw [h6, <- Array.getElem?_toList]
   have h7 := congrArg (fun l => l[0]?) e1
   simp only [List.getElem?_cons_zero] at h7
   rw [List.getElem?_take_of_lt (by omega), List.getElem?_drop, List.getElem?_take_of_lt (by omega), List.getElem?_drop, Nat.add_zero] at h7
   rw [h7, h5]
  refine ⟨?_, hcell⟩
  rcases Nat.lt_or_ge 0 W.heap.size with h0 | h0
  ·exact h0
  ·have h1 := hcell 0 0 (by omega) (by omega)
   rw [World.cell?, Array.getElem?_eq_none (by show W.heap.size <= 0; omega)] at h1
   cases h1
theorem jps {n : Int} (h : (Lit.int .u16 n).wf = true) : ∃ u : Nat, n = u /\ u <= 65535 := by
 have h2 : 0 <= n /\ n <= 65535 := by
  simp [Lit.wf, IntKind.min, IntKind.max, IntKind.signed, IntKind.bits] at h
  omega
 exact ⟨n.toNat, by omega, by omega⟩
def szI (xs : List InsV) : Prop := xs.length <= reachBytes /\ ∀ x ∈ xs, x.args.length <= reachBytes
def szB (xs : List (List InsV)) : Prop := xs.length <= reachBytes /\ ∀ x ∈ xs, szI x
def szF (f : FunV) : Prop := f.kinds.length <= reachBytes /\ f.base.length <= reachBytes /\ szB f.blocks
def szP (p : List FunV) : Prop := p.length <= reachBytes /\ ∀ f ∈ p, szF f
theorem jsl : 0 < Tryz.prog.bytesOf 3 := of_decide_eq_true (by kernel_rfl)
theorem jsm : 0 < Tryz.prog.bytesOf 57 := of_decide_eq_true (by kernel_rfl)
theorem jms : 0 < Tryz.prog.bytesOf 55 := of_decide_eq_true (by kernel_rfl)
theorem jp7 : 0 < Tryz.prog.bytesOf 52 := of_decide_eq_true (by kernel_rfl)
section
variable {H : Type} {enc : TypeId × Value -> H} {W : World}
theorem jeh {P : Program} {e : TypeId} : ∀ {l : List (DataW H)} {d : DataW H}, (DataW.weightsAll P e l).all (· <= reachBytes) = true -> d ∈ l -> (d.weights P e).all (· <= reachBytes) = true
 | a :: l, d, h, hd => by
  simp only [DataW.weightsAll, List.all_append, Bool.and_eq_true] at h
  rcases List.mem_cons.1 hd with rfl | hd
  ·exact h.1
  ·exact jeh h.2 hd
theorem jbq {P : Program} : ∀ {ts : List TypeId} {ds : List (DataW H)} {i : Nat} {t : TypeId} {d : DataW H}, ts[i]? = some t -> ds[i]? = some d -> (DataW.weightsEach P ts ds).all (· <= reachBytes) = true -> (d.weights P t).all (· <= reachBytes) = true
 | t' :: ts, d' :: ds, i, t, d, h1, h2, h => by
  simp only [DataW.weightsEach, List.all_append, Bool.and_eq_true] at h
  cases i with
  | zero => simp at h1 h2; subst h1 h2; exact h.1
  | succ i => exact jbq (i := i) (by simpa using h1) (by simpa using h2) h.2
 | [], _, i, t, d, h1, _, _ => by simp at h1
 | _ :: _, [], i, t, d, _, h2, _ => by simp at h2
theorem jig {P : Program} {t e : TypeId} {len : Nat} {D : Nat -> DataW H} {E : List (DataW H)} (ht : P.underlying t = some (.slice e)) (hby : 0 < P.bytesOf e) (hw : ((DataW.slice ((List.range len).map D) E).weights P t).all (· <= reachBytes) = true) :
  len <= reachBytes /\ ∀ k, k < len -> ((D k).weights P e).all (· <= reachBytes) = true := by
 simp only [DataW.weights, ht, List.all_cons, List.all_append, Bool.and_eq_true, decide_eq_true_eq, List.length_map, List.length_range] at hw
 obtain ⟨h1, h2, -⟩ := hw
 refine ⟨?_, fun k hk => jeh h2 (List.mem_map.2 ⟨k, List.mem_range.2 hk, rfl⟩)⟩
 have : len <= (len + E.length) * P.bytesOf e := Nat.le_trans (Nat.le_add_right _ _) (Nat.le_mul_of_pos_right _ hby)
 omega
theorem jf0 {α : Type} {t e : TypeId} {s fuel : Nat} {v : Value} {x : DataW H × List MemPlace} {P : Nat -> Nat -> α -> Prop} (ht : Tryz.prog.underlying t = some (.slice e)) (hC : Tryz.prog.cellsOf e = s)
  (h : DataW.trod enc Tryz.prog W 0 (fun _ => true) true fuel t [v] = some x) (hlt : ∀ y ∈ x.2, y.block < W.heap.size)
  (hel : ∀ (b o n : Nat) (cs : List Value) (d : DataW H) (pl : List MemPlace), cs.length = s -> (∀ i, i < s -> W.cell? ⟨b, o + i, none⟩ = cs[i]?) -> DataW.trod enc Tryz.prog W 0 (fun _ => true) true n e cs = some (d, pl) -> (∀ y ∈ pl, y.block < W.heap.size) -> (d.weights Tryz.prog e).all (· <= reachBytes) = true -> ∃ a : α, P b o a) (hs : 0 < s) (hby : 0 < Tryz.prog.bytesOf e) (hw : (x.1.weights Tryz.prog t).all (· <= reachBytes) = true) :
  ∃ xs : List α, Vec s P (· < W.heap.size) v xs /\ xs.length <= reachBytes := by
 rcases open_slice ht h with ⟨h1, -⟩ | ⟨a, len, cap, m, n, D, Pl, hcs, -, hl, hm, hmm, rfl, hi⟩
 ·simp at h1
  subst h1
  exact ⟨[], Vec.nil _ _ _, Nat.zero_le _⟩
 ·simp at hcs
  subst hcs
  simp only [if_true] at hmm
  subst hmm
  have hm' : m <= 9223372036854775807 := by unfold maxLen at hm; exact hm
  obtain ⟨hlr, hwD⟩ := jig ht hby hw
  by_cases h0 : len = 0
  ·subst h0
   exact ⟨[], ⟨some a, m, rfl, by simp, hm', fun hp => absurd hp (by simp)⟩, Nat.zero_le _⟩
  ·obtain ⟨b, o, spot⟩ := a
   have hspot : spot = none := by
    obtain ⟨cs', hc, -⟩ := hi 0 (by omega)
    obtain ⟨-, hlc, hat⟩ := World.cells?_some hc
    have h1 := hat 0 (by omega)
    have h2 : ∃ u, cs'[0]? = some u := ⟨_, List.getElem?_eq_getElem (by omega)⟩
    obtain ⟨u, hu⟩ := h2
    rw [hu] at h1
    simpa [Addr.add] using World.cell?_spot h1
   subst hspot
   have hb : b < W.heap.size := by
    refine hlt (.cell b o) (List.mem_append_left _ ?_)
    exact MemPlace.mem_row.2 ⟨0, Nat.mul_pos (by omega) (by omega), by simp⟩
   have key : ∀ k, k <= len -> ∃ xs : List α, xs.length = k /\ ∀ (j : Nat) (y : α), xs[j]? = some y -> P b (o + j * s) y := by
    intro k
    induction k with
    | zero => exact fun _ => ⟨[], rfl, fun j y hj => by simp at hj⟩
    | succ k ih =>
     intro hk
     obtain ⟨xs, hxl, hx⟩ := ih (by omega)
     obtain ⟨cs', hc, htr⟩ := hi k (by omega)
     obtain ⟨-, hlc, hat⟩ := World.cells?_some hc
     rw [hC] at hlc hat
     obtain ⟨y, hy⟩ := hel b (o + k * s) n cs' (D k) (Pl k) hlc (fun i hi' => by
      have := hat i hi'
      rw [add_plain, add_plain] at this
      exact this) htr (fun z hz => hlt z (List.mem_append_right _ (List.mem_flatMap.2 ⟨k, List.mem_range.2 (by omega), hz⟩))) (hwD k (by omega))
     refine ⟨xs ++ [y], by simp [hxl], fun j z hj => ?_⟩
     by_cases hjl : j < xs.length
     ·rw [List.getElem?_append_left hjl] at hj
      exact hx j z hj
     ·have hjk : j = k := by
       have := (List.getElem?_eq_some_iff.1 hj).1
       simp at this; omega
      subst hjk
      rw [<- hxl, List.getElem?_append_right (Nat.le_refl _)] at hj
      simp at hj
      subst hj
      exact hy
   obtain ⟨xs, hxl, hx⟩ := key len (Nat.le_refl _)
   exact ⟨xs, ⟨some ⟨b, o, none⟩, m, by rw [hxl], by omega, hm', fun _ => ⟨b, o, rfl, hb, hx⟩⟩, by rw [hxl]; exact hlr⟩
theorem jp1 {t : TypeId} {fs : Array Field} {fuel : Nat} {cs : List Value} {d : DataW H} {pl : List MemPlace} (hs : Tryz.prog.underlying t = some (.struct fs)) (hone : oneCellFields Tryz.prog fs = true) (h : DataW.trod enc Tryz.prog W 0 (fun _ => true) true fuel t cs = some (d, pl)) (hlt : ∀ y ∈ pl, y.block < W.heap.size) (hw : (d.weights Tryz.prog t).all (· <= reachBytes) = true) :
  ∃ n, ∀ (i : Nat) (f : Field) (u : Value), fs[i]? = some f -> cs[i]? = some u -> ∃ x, DataW.trod enc Tryz.prog W 0 (fun _ => true) true n f.type [u] = some x /\ (∀ y ∈ x.2, y.block < W.heap.size) /\ (x.1.weights Tryz.prog f.type).all (· <= reachBytes) = true := by
 obtain ⟨xs, n, -, hx, -, hl, hf⟩ := DataW.trod_struct hs h
 simp only [Prod.mk.injEq] at hx
 refine ⟨n, fun i f u hi hu => ?_⟩
 obtain ⟨ho, hk⟩ := hone_of hone i f hi
 have h1 := hf i f hi
 rw [ho, hk] at h1
 have hil : i < cs.length := (List.getElem?_eq_some_iff.1 hu).1
 have h2 : (cs.drop i).take 1 = [u] := by
  rw [List.drop_eq_getElem_cons hil]
  have := (List.getElem?_eq_some_iff.1 hu).2
  simp [this]
 rw [h2] at h1
 have hix : i < xs.length := by rw [hl]; exact (Array.getElem?_eq_some_iff.1 hi).1
 rw [List.getElem?_eq_getElem hix] at h1
 refine ⟨_, h1, fun y hy => hlt y (by rw [hx.2]; exact List.mem_flatMap.2 ⟨_, List.getElem_mem hix, hy⟩), ?_⟩
 rw [hx.1] at hw
 simp only [DataW.weights, hs] at hw
 exact jbq (i := i) (by rw [List.getElem?_map, Array.getElem?_toList, hi]; rfl) (by rw [List.getElem?_map, List.getElem?_eq_getElem hix]; rfl) hw
theorem jct {t : TypeId} {fs : Array Field} {ts : List TypeId} {fuel : Nat} {cs : List Value} {d : DataW H} {pl : List MemPlace} (hs : Tryz.prog.underlying t = some (.struct fs)) (hone : oneCellFields Tryz.prog (jbj Tryz.prog t) = true)
  (hts : (jbj Tryz.prog t).toList.map (·.type) = ts) (h : DataW.trod enc Tryz.prog W 0 (fun _ => true) true fuel t cs = some (d, pl)) (hlt : ∀ y ∈ pl, y.block < W.heap.size) (hw : (d.weights Tryz.prog t).all (· <= reachBytes) = true) :
  ∃ n, ∀ (i : Nat) (ty : TypeId) (u : Value), ts[i]? = some ty -> cs[i]? = some u -> ∃ x, DataW.trod enc Tryz.prog W 0 (fun _ => true) true n ty [u] = some x /\ (∀ y ∈ x.2, y.block < W.heap.size) /\ (x.1.weights Tryz.prog ty).all (· <= reachBytes) = true := by
 have hfs : jbj Tryz.prog t = fs := by unfold jbj; rw [hs]
 rw [hfs] at hone hts
 obtain ⟨n, hn⟩ := jp1 hs hone h hlt hw
 refine ⟨n, fun i ty u hi hu => ?_⟩
 rw [<- hts, List.getElem?_map] at hi
 cases hf : fs.toList[i]? with
 | none => rw [hf] at hi; cases hi
 | some f =>
  rw [hf] at hi
  simp only [Option.map_some, Option.some.injEq] at hi
  subst hi
  exact hn i f u (by rw [<- Array.getElem?_toList]; exact hf) hu
theorem jfk {fuel : Nat} {v : Value} {x : DataW H × List MemPlace} (h : DataW.trod enc Tryz.prog W 0 (fun _ => true) true fuel 32 [v] = some x) (hlt : ∀ y ∈ x.2, y.block < W.heap.size) (hw : (x.1.weights Tryz.prog 32).all (· <= reachBytes) = true) : ∃ zs, IntsV W (· < W.heap.size) v zs /\ zs.length <= reachBytes :=
 jf0 (s := 1) Tryz.underlying32 jsi h hlt (fun b o n cs d pl hl hc htr _ _ => by
  obtain ⟨z, rfl, -, hw⟩ := DataW.trod_int Tryz.underlying3 htr
  exact ⟨z, (hc 0 (by omega)), int_R hw⟩) (by omega) jsl hw
theorem jqr {fuel : Nat} {v : Value} {x : DataW H × List MemPlace} (h : DataW.trod enc Tryz.prog W 0 (fun _ => true) true fuel 53 [v] = some x) (hlt : ∀ y ∈ x.2, y.block < W.heap.size) (hw : (x.1.weights Tryz.prog 53).all (· <= reachBytes) = true) : ∃ xs, InssV W (· < W.heap.size) v xs /\ szI xs := by
 obtain ⟨xs, hv, hl⟩ :=
 jf0 (P := fun b o x => InsC W (· < W.heap.size) b o x /\ x.args.length <= reachBytes) (s := 7) Tryz.underlying53 jsj h hlt (fun b o n cs d pl hl hc htr hp hdw => by
  obtain ⟨n', hf⟩ := jct Tryz.underlying57 hone_Ins jpt htr hp hdw
  match cs, hl with
  | [c0, c1, c2, c3, c4, c5, c6], _ =>
   obtain ⟨x0, h0, -⟩ := hf 0 _ c0 rfl rfl
   obtain ⟨x1, h1, -⟩ := hf 1 _ c1 rfl rfl
   obtain ⟨x2, h2, -⟩ := hf 2 _ c2 rfl rfl
   obtain ⟨x3, h3, -⟩ := hf 3 _ c3 rfl rfl
   obtain ⟨x4, h4, -⟩ := hf 4 _ c4 rfl rfl
   obtain ⟨x5, h5, -⟩ := hf 5 _ c5 rfl rfl
   obtain ⟨x6, h6, hp6, hw6⟩ := hf 6 _ c6 rfl rfl
   obtain ⟨z0, rfl, r0⟩ := jc8 h0
   obtain ⟨z1, rfl, r1⟩ := jc8 h1
   obtain ⟨z2, rfl, r2⟩ := jc8 h2
   obtain ⟨z3, rfl, r3⟩ := jc8 h3
   obtain ⟨z4, rfl, r4⟩ := jc8 h4
   obtain ⟨z5, rfl, r5⟩ := jc8 h5
   obtain ⟨zs, hz, hzl⟩ := jfk h6 hp6 hw6
   exact ⟨⟨z0, z1, z2, z3, z4, z5, zs⟩, ⟨c6, ⟨hc 0 (by omega), hc 1 (by omega), hc 2 (by omega), hc 3 (by omega), hc 4 (by omega), hc 5 (by omega), hc 6 (by omega)⟩, hz, r0, r1, r2, r3, r4, r5⟩, hzl⟩) (by omega) jsm hw
 exact ⟨xs, hv.mono (fun _ h => h) (fun b o x _ _ h => h.1), hl, fun x hx => (Vec.each hv x hx).elim fun b ⟨o, h⟩ => h.2⟩
theorem joh {fuel : Nat} {v : Value} {x : DataW H × List MemPlace} (h : DataW.trod enc Tryz.prog W 0 (fun _ => true) true fuel 50 [v] = some x) (hlt : ∀ y ∈ x.2, y.block < W.heap.size) (hw : (x.1.weights Tryz.prog 50).all (· <= reachBytes) = true) : ∃ xs, BlksV W (· < W.heap.size) v xs /\ szB xs := by
 obtain ⟨xs, hv, hl⟩ :=
 jf0 (P := fun b o x => BlkC W (· < W.heap.size) b o x /\ szI x) (s := 1) Tryz.underlying50 jmp h hlt (fun b o n cs d pl hl hc htr hp hdw => by
  obtain ⟨n', hf⟩ := jct Tryz.underlying55 jou jlu htr hp hdw
  match cs, hl with
  | [c0], _ =>
   obtain ⟨x0, h0, hp0, hw0⟩ := hf 0 _ c0 rfl rfl
   obtain ⟨xs, hx, hxs⟩ := jqr h0 hp0 hw0
   exact ⟨xs, ⟨c0, hc 0 (by omega), hx⟩, hxs⟩) (by omega) jms hw
 exact ⟨xs, hv.mono (fun _ h => h) (fun b o x _ _ h => h.1), hl, fun x hx => (Vec.each hv x hx).elim fun b ⟨o, h⟩ => h.2⟩
theorem jog {fuel : Nat} {v : Value} {x : DataW H × List MemPlace} (h : DataW.trod enc Tryz.prog W 0 (fun _ => true) true fuel 22 [v] = some x) (hlt : ∀ y ∈ x.2, y.block < W.heap.size) (hw : (x.1.weights Tryz.prog 22).all (· <= reachBytes) = true) : ∃ xs, FunsV W (· < W.heap.size) v xs /\ szP xs := by
 obtain ⟨xs, hv, hl⟩ :=
 jf0 (P := fun b o x => FunC W (· < W.heap.size) b o x /\ szF x) (s := 5) Tryz.underlying22 jp6 h hlt (fun b o n cs d pl hl hc htr hp hdw => by
  obtain ⟨n', hf⟩ := jct Tryz.underlying52 jry jo2 htr hp hdw
  match cs, hl with
  | [c0, c1, c2, c3, c4], _ =>
   obtain ⟨x0, h0, p0, w0⟩ := hf 0 _ c0 rfl rfl
   obtain ⟨x1, h1, p1, w1⟩ := hf 1 _ c1 rfl rfl
   obtain ⟨x2, h2, -⟩ := hf 2 _ c2 rfl rfl
   obtain ⟨x3, h3, -⟩ := hf 3 _ c3 rfl rfl
   obtain ⟨x4, h4, p4, w4⟩ := hf 4 _ c4 rfl rfl
   obtain ⟨ks, hk, hkl⟩ := jfk h0 p0 w0
   obtain ⟨bs, hb, hbl⟩ := jfk h1 p1 w1
   obtain ⟨z2, rfl, r2⟩ := jc8 h2
   obtain ⟨z3, rfl, r3⟩ := jc8 h3
   obtain ⟨ls, hl, hll⟩ := joh h4 p4 w4
   exact ⟨⟨ks, bs, z2, z3, ls⟩, ⟨c0, c1, c4, ⟨hc 0 (by omega), hc 1 (by omega), hc 2 (by omega), hc 3 (by omega), hc 4 (by omega)⟩, hk, hb, hl, r2, r3⟩, hkl, hbl, hll⟩) (by omega) jp7 hw
 exact ⟨xs, hv.mono (fun _ h => h) (fun b o x _ _ h => h.1), hl, fun x hx => (Vec.each hv x hx).elim fun b ⟨o, h⟩ => h.2⟩
theorem ji4 {r : Reach} {b0 : Nat} {v : Value} {d : DataW H} {pl : List MemPlace} (hv : Value.okWide Tryz.prog W r b0 24 v) (h : DataW.Trod enc Tryz.prog W 0 (fun _ => true) true 24 v d pl) (hlt : ∀ y ∈ pl, y.block < W.heap.size) (hw : (d.weights Tryz.prog 24).all (· <= reachBytes) = true) :
  ∃ vp p, v = .agg #[vp] /\ FunsV W (· < W.heap.size) vp p /\ szP p := by
 obtain ⟨cs, rfl, hsz⟩ := okWide_struct Tryz.underlying24 hv
 obtain ⟨fuel, hf⟩ := h
 obtain ⟨n', hf⟩ := jct Tryz.underlying24 jrx jo1 hf hlt hw
 rw [jp5] at hsz
 obtain ⟨l⟩ := cs
 match l, hsz with
 | [c0], _ =>
  obtain ⟨x0, h0, p0, w0⟩ := hf 0 _ c0 rfl rfl
  obtain ⟨p, hp, hs⟩ := jog h0 p0 w0
  exact ⟨c0, p, rfl, hp, hs⟩
theorem szP.size {p : List FunV} (h : szP p) : ∀ f ∈ p, f.kinds.length <= 1152921504606846976 /\ f.base.length <= 1152921504606846976 /\ f.blocks.length <= 1152921504606846976 /\ ∀ b ∈ f.blocks, b.length <= 1152921504606846976 /\ ∀ x ∈ b, x.args.length <= 1152921504606846976 := fun f hf => by
 have hr : reachBytes <= 1152921504606846976 := by decide
 obtain ⟨h1, h2, h3, h4⟩ := h.2 f hf
 exact ⟨by omega, by omega, by omega, fun b hb => ⟨by have := (h4 b hb).1; omega, fun x hx => by have := (h4 b hb).2 x hx; omega⟩⟩
end
end Go.Proofs.YthbnbaikdcfbmaaGreatDoor
