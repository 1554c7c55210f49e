/- Texts of several names, of which only what the statement needs is kept. -/
import Derived.Test.YteoopilmdlhkhaaDoorPaMC
import Derived.Test.YteoopilmdlhkhaaDoorPaMB
import Derived.Test.YteoopilmdlhkhaaDoorProg
import Derived.Deep.RegionHeld3
/- The contracts of shape's Sets, Uses, Next, onlyParts. Condition: the table of parts reads as listed. -/
set_option linter.unusedSimpArgs false
set_option linter.unusedVariables false
namespace Go.Proofs.YteoopilmdlhkhaaDoor
open Go.RowKit

def hasB4 (op : Int) (c : Nat) : Bool := decide (c ∈ partsN op)
set_option maxRecDepth 100000 in
theorem sets_any (x : InsV) (A : Option Addr) (n c : Nat) (w : World) (hT : TabP w) (hop : i64R x.op) :
    Calls Tryd.prog 33 #[.agg #[.int .i64 x.op, .int .i64 x.d, .int .i64 x.a, .int .i64 x.b, .int .i64 x.n, .int .i64 x.m, .slice A n c]] w fun e w' => e = .returned (.tuple #[.int .i64 (if hasB4 x.op 68 = true then x.d else 0), .bool (hasB4 x.op 68)]) ∧ Below w.heap.size w w' := by
  have H : ∀ W, Below w.heap.size w W → Calls Tryd.prog 55 #[.int .i64 x.op, .string ⟨#[68]⟩] W fun e w' => e = .returned (.bool (hasB4 x.op 68)) ∧ W = w' := fun W hW => has_one x.op 68 W (hT.below hW hT.1) hop (by unfold isLetter; omega)
  have HH := hide H
  clear H hT hop
  generalize hasB4 x.op 68 = b at *
  cases b with
  | false =>
    go_enter Tryd.func33, Tryd.ntmps33
    go_wp2_with (go_at_call 55; refine (HH.out _ (alloc1 w _)).mono ?_; rintro e w' ⟨rfl, rfl⟩)
    go_ret2
    exact ⟨rfl, alloc1 w _⟩
  | true =>
    go_enter Tryd.func33, Tryd.ntmps33
    go_wp2_with (go_at_call 55; refine (HH.out _ (alloc1 w _)).mono ?_; rintro e w' ⟨rfl, rfl⟩)
    go_ret2
    exact ⟨rfl, alloc1 w _⟩

def nextL (x : InsV) : List Int := if x.op = 21 ∨ (x.op = 22 ∧ x.n = x.m) then [x.n] else if x.op = 22 then [min x.n x.m, max x.n x.m] else []
def usesL (x : InsV) : List Int := (if hasB4 x.op 65 = true then [x.a] else []) ++ (if hasB4 x.op 66 = true then [x.b] else []) ++ (if hasB4 x.op 76 = true then x.args else [])
set_option maxHeartbeats 1000000 in
set_option maxRecDepth 100000 in
theorem uses_any (x : InsV) (va : Value) (w : World) (B : Nat) (hB : B ≤ w.heap.size) (hT : TabP w) (hx : InsI w (· < B) va x) (hlen : x.args.length ≤ 1099511627000) :
    Calls Tryd.prog 36 #[.agg #[.int .i64 x.op, .int .i64 x.d, .int .i64 x.a, .int .i64 x.b, .int .i64 x.n, .int .i64 x.m, va]] w fun e w' => ∃ v, e = .returned v ∧ Ow w' w.heap.size 3 .i64 v (usesL x) ∧ Below w.heap.size w w' := by
  obtain ⟨i0, hi0, iz0, iz1, iz2⟩ := info_parts info_i64
  have HI := hide hi0
  clear hi0
  have hop := hx.2.1
  have hH : ∀ c, isLetter c → ∀ W, Below w.heap.size w W → Calls Tryd.prog 55 #[.int .i64 x.op, .string (strOf [c])] W fun e w' => e = .returned (.bool (hasB4 x.op c)) ∧ W = w' := fun c hc W hW => has_one x.op c W (hT.below hW hT.1) hop hc
  have hA : ∀ W, Below w.heap.size w W → Calls Tryd.prog 55 #[.int .i64 x.op, .string ⟨#[65]⟩] W fun e w' => e = .returned (.bool (hasB4 x.op 65)) ∧ W = w' := hH 65 (by unfold isLetter; omega)
  have hBb : ∀ W, Below w.heap.size w W → Calls Tryd.prog 55 #[.int .i64 x.op, .string ⟨#[66]⟩] W fun e w' => e = .returned (.bool (hasB4 x.op 66)) ∧ W = w' := hH 66 (by unfold isLetter; omega)
  have hL : ∀ W, Below w.heap.size w W → Calls Tryd.prog 55 #[.int .i64 x.op, .string ⟨#[76]⟩] W fun e w' => e = .returned (.bool (hasB4 x.op 76)) ∧ W = w' := hH 76 (by unfold isLetter; omega)
  obtain ⟨A, c, rfl, hc, hm, hsl, -⟩ := hx.1.sl
  have HSL := hide (hsl.more hB)
  have HSLB := hide hsl
  unfold usesL
  generalize hasB4 x.op 65 = b1 at *
  generalize hasB4 x.op 66 = b2 at *
  generalize hasB4 x.op 76 = b3 at *
  obtain ⟨zs, hzs⟩ : ∃ zs, x.args = zs := ⟨_, rfl⟩
  rw [hzs] at hc HSL HSLB hlen ⊢
  obtain ⟨la, hla⟩ : ∃ la, zs.length = la := ⟨_, rfl⟩
  rw [hla] at hc hlen ⊢
  have HLA := hide hla
  generalize x.op = xop, x.d = xd, x.a = xa, x.b = xb, x.n = xn, x.m = xm at *
  have HA := hide hA; have HBb := hide hBb; have HL := hide hL
  clear hA hBb hL hH hT hx hop hsl hzs hla
  cases b1 <;> cases b2 <;> cases b3
  all_goals
    go_enter Tryd.func36, Tryd.ntmps36
    go_upto_region 2 with (fail)
    obtain ⟨w1, hw1⟩ : ∃ w1, w1 = w.alloc (.cells #[.int .i64 xop, .int .i64 xd, .int .i64 xa, .int .i64 xb, .int .i64 xn, .int .i64 xm, .slice A la c] 28) := ⟨_, rfl⟩
    have HBX := hide (show Box w1 w.heap.size #[.int .i64 xop, .int .i64 xd, .int .i64 xa, .int .i64 xb, .int .i64 xn, .int .i64 xm, .slice A la c] 28 by rw [hw1]; exact Box.new w _ _)
    have HB1 := hide (show Below w.heap.size w w1 by rw [hw1]; exact alloc1 w _)
    have hl1 := HBX.out.lt
    have x0 := (HBX.out.cell 0 (v := .int .i64 xop) rfl).1
    have x2 := (HBX.out.cell 2 (v := .int .i64 xa) rfl).1
    have x3 := (HBX.out.cell 3 (v := .int .i64 xb) rfl).1
    have x6 := (HBX.out.cell 6 (v := .slice A la c) rfl).1
    rw [← hw1]
    clear hw1
    have HO1 := hide (Ow.nil w1 w1.heap.size 3 .i64)
    go_wp2_with (first
      | (go_at_call 55; (with_reducible refine (HL.out _ ?_).mono ?_); (first | exact HB3.out | exact HB2.out | exact HB1.out); rintro e w' ⟨rfl, rfl⟩)
      | (go_at_call 55; (with_reducible refine (HBb.out _ ?_).mono ?_); (first | exact HB2.out | exact HB1.out); rintro e w' ⟨rfl, rfl⟩)
      | (go_at_call 55; (with_reducible refine (HA.out _ HB1.out).mono ?_); rintro e w' ⟨rfl, rfl⟩)
      | (at_builtin; refine wpList_append_sl _ rfl (.tmp 23) (.tmp 25) _ rfl w1.heap.size 3 .i64 i0 _ 8 Tryd.underlying26 HI.out iz0 iz1 iz2 rfl (by omega) _ _ rfl (by first | exact HO3.out | exact HO2.out | exact HO1.out) w.heap.size A _ c zs rfl HLA.out (by first | exact HSL.out.below HB3.out | exact HSL.out.below HB2.out | exact HSL.out.below HB1.out) (by simp; omega) (by first | exact HC3.out.size | exact HC2.out.size | exact Nat.le_refl _) ?_; intro v4 w4 ho4 hb4; have HO4 := hide ho4; have HB4 : Hid (Below w.heap.size w w4) := (by first | exact HB3.out.trans (hb4.mono (by omega)) | exact HB2.out.trans (hb4.mono (by omega)) | exact HB1.out.trans (hb4.mono (by omega))); clear ho4 hb4)
      | (at_builtin; refine wpList_append_one _ rfl (.tmp 15) (.tmp 18) _ rfl w1.heap.size 3 .i64 i0 _ 8 Tryd.underlying26 HI.out iz0 iz1 iz2 rfl (by omega) _ _ rfl (by first | exact HO2.out | exact HO1.out) xb rfl (by simp) (by first | exact HC2.out.size | exact Nat.le_refl _) ?_; intro v3 w3 ho3 hb3; have hx3 : Box w3 w.heap.size #[.int .i64 xop, .int .i64 xd, .int .i64 xa, .int .i64 xb, .int .i64 xn, .int .i64 xm, .slice A la c] 28 := (by first | exact HX2.out.belowB hb3 hl1 | exact HBX.out.belowB hb3 hl1); have HB3 : Hid (Below w.heap.size w w3) := (by first | exact HB2.out.trans (hb3.mono (by omega)) | exact HB1.out.trans (hb3.mono (by omega))); have HC3 : Hid (Below w1.heap.size w1 w3) := (by first | exact HC2.out.trans hb3 | exact hb3); have hl3 := hx3.lt; have z0 := (hx3.cell 0 (v := .int .i64 xop) rfl).1; have z6 := (hx3.cell 6 (v := .slice A la c) rfl).1; have HO3 := hide ho3; clear ho3 hb3 hx3)
      | (at_builtin; refine wpList_append_one _ rfl (.tmp 7) (.tmp 10) _ rfl w1.heap.size 3 .i64 i0 _ 8 Tryd.underlying26 HI.out iz0 iz1 iz2 rfl (by omega) _ [] rfl HO1.out xa rfl (by simp) (Nat.le_refl _) ?_; intro v2 w2 ho2 hb2; rw [List.nil_append] at ho2; have hx2 := HBX.out.belowB hb2 hl1; have HB2 := hide (HB1.out.trans (hb2.mono (by omega))); have HC2 := hide hb2; have hl2 := hx2.lt; have y0 := (hx2.cell 0 (v := .int .i64 xop) rfl).1; have y3 := (hx2.cell 3 (v := .int .i64 xb) rfl).1; have y6 := (hx2.cell 6 (v := .slice A la c) rfl).1; have HX2 := hide hx2; have HO2 := hide ho2; clear ho2 hb2 hx2 x0 x2 x3 x6))
    all_goals
      go_ret
      first
        | exact ⟨_, rfl, by simpa using HO4.out.lower (by omega), HB4.out⟩
        | exact ⟨_, rfl, by simpa using HO3.out.lower (by omega), HB3.out⟩
        | exact ⟨_, rfl, by simpa using HO2.out.lower (by omega), HB2.out⟩
        | exact ⟨_, rfl, by simpa using HO1.out.lower (by omega), HB1.out⟩
end Go.Proofs.YteoopilmdlhkhaaDoor
namespace Go.Proofs.YteoopilmdlhkhaaDoor
open Go.RowKit

end Go.Proofs.YteoopilmdlhkhaaDoor
namespace Go.Proofs.YteoopilmdlhkhaaDoor
open Go.RowKit

theorem SBoxR.of {w : World} {h : Nat} {o d a b n m : Int} {v : Value} {T : TypeId} (hb : Box w h #[.int .i64 o, .int .i64 d, .int .i64 a, .int .i64 b, .int .i64 n, .int .i64 m, v] T) :
    w.cell? ⟨h, 0, none⟩ = some (.int .i64 o) ∧ w.cell? ⟨h, 1, none⟩ = some (.int .i64 d) ∧ w.cell? ⟨h, 2, none⟩ = some (.int .i64 a) ∧ w.cell? ⟨h, 3, none⟩ = some (.int .i64 b) ∧ w.cell? ⟨h, 4, none⟩ = some (.int .i64 n) ∧ w.cell? ⟨h, 5, none⟩ = some (.int .i64 m) ∧ w.cell? ⟨h, 6, none⟩ = some v :=
  ⟨(hb.cell 0 (v := .int .i64 o) rfl).1, (hb.cell 1 (v := .int .i64 d) rfl).1, (hb.cell 2 (v := .int .i64 a) rfl).1, (hb.cell 3 (v := .int .i64 b) rfl).1, (hb.cell 4 (v := .int .i64 n) rfl).1, (hb.cell 5 (v := .int .i64 m) rfl).1, (hb.cell 6 (v := v) rfl).1⟩
end Go.Proofs.YteoopilmdlhkhaaDoor
namespace Go.Proofs.YteoopilmdlhkhaaDoor
open Go.RowKit

theorem SScp.of {w : World} {h : Nat} {v1 v2 v3 : Value} {T : TypeId} (hb : Box w h #[v1, v2, v3] T) : w.cell? ⟨h, 0, none⟩ = some v1 ∧ w.cell? ⟨h, 1, none⟩ = some v2 ∧ w.cell? ⟨h, 2, none⟩ = some v3 :=
  ⟨(hb.cell 0 (v := v1) rfl).1, (hb.cell 1 (v := v2) rfl).1, (hb.cell 2 (v := v3) rfl).1⟩
end Go.Proofs.YteoopilmdlhkhaaDoor
namespace Go.Proofs.YteoopilmdlhkhaaDoor
open Go.RowKit

end Go.Proofs.YteoopilmdlhkhaaDoor
namespace Go.Proofs.YteoopilmdlhkhaaDoor
open Go.RowKit

end Go.Proofs.YteoopilmdlhkhaaDoor

/- The contract of the fixed fact of layer 4's statements. Condition: the table of parts reads as listed. -/
set_option linter.unusedSimpArgs false
set_option linter.unusedVariables false
namespace Go.Proofs.YteoopilmdlhkhaaDoor
open Go.RowKit

def tinyCs (z : Int) : Array Value := #[.int .i64 1, .int .i64 0, .int .i64 0, .int .i64 0, .int .i64 5, .int .i64 0, .slice none 0 0, .int .i64 z, .int .i64 0, .int .i64 0, .int .i64 0, .int .i64 0, .int .i64 0, .slice none 0 0]
/-- The fixed program in memory. -/
def TinyP (w : World) (h : Nat) (z : Int) : Prop :=
  Box w (h + 1) #[.int .i64 0] 3 ∧ Box w (h + 2) #[.int .i64 (-1)] 3 ∧ Box w (h + 3) (tinyCs z) 28 ∧ Box w (h + 4) #[.slice (some ⟨h + 3, 0, none⟩) 2 2] 31 ∧
    Box w (h + 5) #[.slice (some ⟨h + 1, 0, none⟩) 1 1, .slice (some ⟨h + 2, 0, none⟩) 1 1, .int .i64 0, .int .i64 0, .slice (some ⟨h + 4, 0, none⟩) 1 1] 34
theorem TinyP.below {w w' : World} {h : Nat} {z : Int} (t : TinyP w h z) (hb : Below w.heap.size w w') : TinyP w' h z :=
  ⟨t.1.below hb, t.2.1.below hb, t.2.2.1.below hb, t.2.2.2.1.below hb, t.2.2.2.2.below hb⟩
theorem vec_one {α : Type} {s : Nat} {P : Nat → Nat → α → Prop} {S : Nat → Prop} {b c : Nat} {x : α} (hS : S b) (hP : P b 0 x) (hc : 1 ≤ c) (hm : c ≤ 100) : Vec s P S (.slice (some ⟨b, 0, none⟩) 1 c) [x] := by
  refine ⟨some ⟨b, 0, none⟩, c, rfl, by simpa using hc, by omega, fun _ => ⟨b, 0, rfl, hS, fun j y hj => ?_⟩⟩
  have hj0 : j = 0 := by
    have := (List.getElem?_eq_some_iff.1 hj).1
    simp at this; exact this
  subst hj0
  simp at hj
  subst hj
  simpa using hP
end Go.Proofs.YteoopilmdlhkhaaDoor
