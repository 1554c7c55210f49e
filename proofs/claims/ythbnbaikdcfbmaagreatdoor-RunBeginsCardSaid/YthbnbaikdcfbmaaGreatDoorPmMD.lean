/- Texts of several names, of which only what the statement needs is kept. -/
import Derived.Test.YthbnbaikdcfbmaaGreatDoorPmSB
import Derived.Deep.CutRange
set_option linter.unusedSimpArgs false
set_option linter.unusedVariables false
set_option maxHeartbeats 1000000
set_option maxRecDepth 100000
namespace Go.Proofs.YthbnbaikdcfbmaaGreatDoor
open Go.RowKit
def jn0 (b : List InsV) : Prop := ∀ x ∈ b, x.args.length <= 3000
def smallF (f : FunV) : Prop := ∀ b ∈ f.blocks, jn0 b
def jg8 (p : List FunV) : Prop := ∀ f ∈ p, f.kinds.length <= 1152921504606846976 /\ f.base.length <= 1152921504606846976 /\ f.blocks.length <= 1152921504606846976 /\ ∀ b ∈ f.blocks, b.length <= 1152921504606846976 /\ ∀ x ∈ b, x.args.length <= 1152921504606846976
theorem jil {α : Type} {P : α -> Prop} {l : List α} {k : Nat} {y : α} (h : ∀ x ∈ l.take k, P x) (hy : l[k]? = some y) (hp : P y) : ∀ x ∈ l.take (k + 1), P x := by
 intro x hx
 rw [List.take_add_one, hy] at hx
 rcases List.mem_append.1 hx with hx | hx
 ·exact h x hx
 ·simp at hx; rw [hx]; exact hp
theorem smallF.few {p : List FunV} (h : ∀ f ∈ p, smallF f) : jaz p := fun f hf b hb x hx => by have := h f hf b hb x hx; omega
theorem joy (vp : Value) (p : List FunV) (w : World) (B : Nat) (hB : B <= w.heap.size) (hp : FunsV w (· < B) vp p) (hsz : jg8 p) :
  Calls Tryz.prog 20 #[.agg #[vp]] w fun e w' => ∃ b : Bool, e = .returned (.bool b) /\ (b = false -> ∀ f ∈ p, smallF f) /\ Below w.heap.size w w' := by
 obtain ⟨A, c, rfl, hpc, hpm⟩ := hp.open'
 obtain ⟨n, hn⟩ := zl p.length
 rw [hn] at hp hpc ⊢
 have HP := hide hp; have HN := hide hn; have HSZ := hide hsz
 have hn60 : n <= 9223372036854775807 := by omega
 clear hp hn hsz
 go_enter Tryz.func20, Tryz.ntmps20
 go_wp2
 go_loopw [3, 4] (fun nn i wr => ∃ (z : Int) (k : Nat), nn = .int .i64 z /\ k <= n /\ i = .int .i64 k /\ Below w.heap.size w wr /\ w.heap.size < wr.heap.size /\ wr.cell? ⟨w.heap.size, 0, none⟩ = some (.slice A n c) /\ (0 <= z /\ z <= 9223372036854775807) /\ Hid (z <= 3000 -> ∀ f ∈ p.take k, smallF f)) (fun _ i _ => n - (intOf i).toNat)
 case atStart => exact ⟨n, 0, rfl, Nat.zero_le _, rfl, (Below.refl _ _).alloc (Nat.le_refl _) _, by simp, by simp, ⟨by omega, by omega⟩, hide (by simp)⟩
 case round =>
  obtain ⟨z, k, rfl, hk, rfl, hb, hs, hx, ⟨hz0, hzm⟩, hsm⟩ := hrel
  by_cases hlt : k < n
  ·by_cases hz : z <= 3000
   ·obtain ⟨y, hy⟩ : ∃ y, p[k]? = some y := ⟨_, List.getElem?_eq_getElem (by have := HN.out; omega)⟩
    obtain ⟨b, o, Ak, ck, Ab, cb, As, cs, rfl, hbb, ⟨e0, e1, e2, e3, e4⟩, hi⟩ := (HP.out.keep (up hb hB) (fun _ h => h)).get hy
    have hbs : b < wr.heap.size := by omega
    obtain ⟨q1, q2, q3, q4⟩ := HSZ.out y (List.mem_of_getElem? hy)
    have HQ4 := hide q4
    have HY := hide hy
    obtain ⟨-, -, hbl, -, -⟩ := hi
    obtain ⟨As', cs', heq, hl1, hl2⟩ := hbl.open'
    injection heq with hA0 _ hcs
    subst hA0
    subst hcs
    obtain ⟨l, hl⟩ := zl y.blocks.length
    rw [hl] at e4 hbl hl1 q3
    have HBL := hide hbl; have HL := hide hl
    have hsmo := hide (hsm.out hz)
    obtain ⟨wo, rfl⟩ := zr wr
    generalize y.kinds.length = lk at *
    generalize y.base.length = lb at *
    clear hy hbl hl q4 hsm
    go_wp2
    go_loop [3, 6] (fun nn i => ∃ (z : Int) (q : Nat), nn = .int .i64 z /\ q <= l /\ i = .int .i64 q /\ (0 <= z /\ z <= 9223372036854775807) /\ Hid (z <= 3000 -> ∀ b ∈ y.blocks.take q, jn0 b)) (fun _ i => l - (intOf i).toNat)
    case atStart => exact ⟨_, 0, rfl, Nat.zero_le _, rfl, ⟨by omega, by omega⟩, hide (by simp)⟩
    case round =>
     obtain ⟨z2, q, rfl, hq, rfl, ⟨hz20, hz2m⟩, hsm2⟩ := hrel
     by_cases hlq : q < l
     ·by_cases hz2 : z2 <= 3000
      ·obtain ⟨x, hx2⟩ : ∃ x, y.blocks[q]? = some x := ⟨_, List.getElem?_eq_getElem (by have := HL.out; omega)⟩
       obtain ⟨b1, o1, A1, c1, rfl, hb1, f0, hx1⟩ := HBL.out.get hx2
       have hb1s : b1 < wo.heap.size := by omega
       obtain ⟨A1', c1', heq1, hm1, hm2⟩ := hx1.open'
       injection heq1 with hA1 _ hcs1
       subst hA1
       subst hcs1
       obtain ⟨r1, r2⟩ := HQ4.out x (List.mem_of_getElem? hx2)
       have HR2 := hide r2
       have HXX := hide hx2
       obtain ⟨m, hm⟩ := zl x.length
       rw [hm] at f0 hx1 hm1 r1
       have HX1 := hide hx1; have HM := hide hm
       have hsm2o := hide (hsm2.out hz2)
       clear hx2 hx1 hm r2 hsm2
       go_wp2
       go_loop [3, 7] (fun nn i => ∃ (z : Int) (j : Nat), nn = .int .i64 z /\ j <= m /\ i = .int .i64 j /\ (0 <= z /\ z <= 9223372036854775807) /\ Hid (z <= 3000 -> ∀ x' ∈ x.take j, x'.args.length <= 3000)) (fun _ i => m - (intOf i).toNat)
       case atStart => exact ⟨_, 0, rfl, Nat.zero_le _, rfl, ⟨by omega, by omega⟩, hide (by simp)⟩
       case round =>
        obtain ⟨z3, j, rfl, hj, rfl, ⟨hz30, hz3m⟩, hsm3⟩ := hrel
        by_cases hlj : j < m
        ·by_cases hz3 : z3 <= 3000
         ·obtain ⟨u, hu⟩ : ∃ u, x[j]? = some u := ⟨_, List.getElem?_eq_getElem (by have := HM.out; omega)⟩
          obtain ⟨b2, o2, A2, c2, rfl, hb2, ⟨g0, g1, g2, g3, g4, g5, g6⟩, -⟩ := HX1.out.get hu
          have hb2s : b2 < wo.heap.size := by omega
          have hla := HR2.out u (List.mem_of_getElem? hu)
          obtain ⟨la, hlae⟩ := zl u.args.length
          rw [hlae] at g6 hla
          have hnx := hide (show z3 + (la : Int) <= 3000 -> ∀ x' ∈ x.take (j + 1), x'.args.length <= 3000 from fun h => jil (P := fun x' : InsV => x'.args.length <= 3000) (hsm3.out hz3) hu (by rw [hlae]; omega))
          clear hu hlae hsm3
          go_wp2
          go_round
          case rel => exact ⟨_, j + 1, rfl, by omega, by go_num, ⟨by omega, by omega⟩, hnx⟩
          case measure => simp [intOf]; omega
         ·have hzd : decide (z3 <= 3000) = false := by simpa using hz3
          have hnx := hide (show z3 <= 3000 -> ∀ b ∈ y.blocks.take (q + 1), jn0 b from fun h => absurd h hz3)
          clear hz3
          go_wp2
          go_round
          case rel => exact ⟨_, q + 1, rfl, by omega, by go_num, ⟨hz30, hz3m⟩, hnx⟩
          case measure => simp [intOf]; omega
        ·have hnx := hide (show z3 <= 3000 -> ∀ b ∈ y.blocks.take (q + 1), jn0 b from fun h => jil hsm2o.out HXX.out (fun x' hx' => hsm3.out h x' (by rw [List.take_of_length_le (by have := HM.out; omega)]; exact hx')))
         clear hsm3
         go_wp2
         go_round
         case rel => exact ⟨_, q + 1, rfl, by omega, by go_num, ⟨hz30, hz3m⟩, hnx⟩
         case measure => simp [intOf]; omega
      ·have hzd : decide (z2 <= 3000) = false := by simpa using hz2
       have hnx := hide (show z2 <= 3000 -> ∀ f ∈ p.take (k + 1), smallF f from fun h => absurd h hz2)
       clear hz2 hsm2
       go_wp2
       go_roundw
       case rel => exact ⟨_, k + 1, rfl, by omega, by go_num, hb.alloc (by omega) _, by simp; omega, (World.cell?_alloc_lt _ _ _ hs).trans hx, ⟨hz20, hz2m⟩, hnx⟩
       case measure => simp [intOf]; omega
     ·have hnx := hide (show z2 <= 3000 -> ∀ f ∈ p.take (k + 1), smallF f from fun h => jil hsmo.out HY.out (fun b' hb' => hsm2.out h b' (by rw [List.take_of_length_le (by have := HL.out; omega)]; exact hb')))
      clear hsm2
      go_wp2
      go_roundw
      case rel => exact ⟨_, k + 1, rfl, by omega, by go_num, hb.alloc (by omega) _, by simp; omega, (World.cell?_alloc_lt _ _ _ hs).trans hx, ⟨hz20, hz2m⟩, hnx⟩
      case measure => simp [intOf]; omega
   ·have hzd : decide (z <= 3000) = false := by simpa using hz
    have hz2 : decide (3000 < z) = true := by simp; omega
    have hfin := hide (show decide (3000 < z) = false -> ∀ f ∈ p, smallF f from fun h => by rw [hz2] at h; cases h)
    clear hz
    go_wp2
    go_ret
    exact ⟨_, rfl, (fun h => by cases h), hb⟩
  ·have hfin := hide (show decide (3000 < z) = false -> ∀ f ∈ p, smallF f from fun h f hf => hsm.out (by simpa using h) f (by rw [List.take_of_length_le (by have := HN.out; omega)]; exact hf))
   clear hsm
   go_wp2
   go_ret
   exact ⟨_, rfl, hfin.out, hb⟩
theorem jih {α : Type} {s : Nat} {P : Nat -> Nat -> α -> Prop} {S : Nat -> Prop} {b c : Nat} {x : α} (hS : S b) (hP : P b 0 x) (hc : 1 <= c) (hm : c <= 100) : Vec s P S (.slice (some ⟨b, 0, none⟩) 1 c) [x] := by
 refine ⟨some ⟨b, 0, none⟩, c, rfl, by simpa using hc, by omega, fun _ => ⟨b, 0, rfl, hS, fun j y hj => ?_⟩⟩
 have hj0 : j = 0 := by
  have := (List.getElem?_eq_some_iff.1 hj).1
  simp at this; exact this
 subst hj0
 simp at hj
 subst hj
 simpa using hP
abbrev St := List Int × Nat
section
variable {g : Nat} {w w1 w2 : World}
end
theorem ji6 (t e : TypeId) {z : Value} {sz bytes : Nat} (ht : Tryz.prog.underlying t = some (.slice e)) (hi : (Tryz.prog.info? e).map (fun i => (i.zero, i.size, i.bytes)) = some (some z, sz, bytes)) (hb : bytes <= 1000) (m : Nat) (hm : m <= 1000) (W : World) :
  (Instr.makeSlice t (.int .i64 (m : Int)) (.int .i64 (m : Int))).run Tryz.prog W = .ok (.slice (some ⟨W.heap.size, 0, none⟩) m m) (W.alloc (.cells (madeCells z.cells (m * sz)) e)) := by
 obtain ⟨i0, hi0, hz0, hz1, hz2⟩ := info_parts hi
 have hmul : i0.bytes * m <= 1000 * 1000 := by rw [hz2]; exact Nat.mul_le_mul hb hm
 have h := run_make (P := Tryz.prog) W t e i0 z ht hi0 hz0 .i64 .i64 (m : Int) (m : Int) (by omega) (by omega) (by rw [<- Int.natCast_mul]; omega) (by omega)
 rw [hz1, Int.toNat_natCast] at h
 exact h
section
variable {w w' : World} {h n : Nat} {T : TypeId} {l : List Int}
end
def Made (w w' : World) (b : Nat) : Prop := w.heap.size <= b /\ b < w'.heap.size
theorem jdc (w : World) (o : Obj) : Below w.heap.size w (w.alloc o) := (Below.refl _ _).alloc (Nat.le_refl _) _
section
variable {α : Type} {w w' : World} {h s n : Nat} {T : TypeId} {l : List α} {E E' : Array Value -> Nat -> α -> Prop}
end
section
variable {w w0 : World} {h o : Nat} {v0 v1 v2 v3 v4 v5 v6 : Value}
end
end Go.Proofs.YthbnbaikdcfbmaaGreatDoor
