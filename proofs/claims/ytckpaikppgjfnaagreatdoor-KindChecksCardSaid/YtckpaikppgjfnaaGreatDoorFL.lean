/- The fixed fact of layer 5. No condition. -/
import Derived.Test.YtckpaikppgjfnaaGreatDoorNB
import Derived.Test.YtckpaikppgjfnaaGreatDoorMR
import Derived.Test.YtckpaikppgjfnaaGreatDoorSAlive
set_option linter.unusedSimpArgs false
set_option linter.unusedVariables false
namespace Go.Proofs.YtckpaikppgjfnaaGreatDoor
open Go.RowKit

def P5 : FunV := ⟨[0], [-1], 0, 0, [[⟨22, 0, 0, 0, 1, 2, []⟩], [⟨21, 0, 0, 0, 3, 0, []⟩], [⟨21, 0, 0, 0, 3, 0, []⟩], [⟨23, 0, 0, 0, 0, 0, []⟩]]⟩
theorem p5_0 : nxt P5 (0 : Int).toNat = [1, 2] := by decide
theorem p5_1 : nxt P5 (1 : Int).toNat = [3] := by decide
theorem p5_2 : nxt P5 (2 : Int).toNat = [3] := by decide
theorem p5_3 : nxt P5 (3 : Int).toNat = [] := by decide
theorem p5_order : OrderOf P5 [0, 2, 1, 3] := by
  refine ⟨[true, true, true, true], [3, 1, 2, 0], ?_, rfl⟩
  refine .new (m1 := [true, true, true, true]) (l1 := [3, 1, 2]) rfl ?_ (.nil _ _)
  rw [p5_0]
  refine .new (m1 := [true, true, false, true]) (l1 := [3]) rfl ?_ ?_
  · rw [p5_1]
    refine .new (m1 := [true, true, false, true]) (l1 := []) rfl ?_ (.nil _ _)
    rw [p5_3]
    exact .nil _ _
  · refine .new (m1 := [true, true, true, true]) (l1 := [3, 1]) rfl ?_ (.nil _ _)
    rw [p5_2]
    exact .old rfl (.nil _ _)
theorem p5_ok : FlowOk P5 := by
  refine ⟨by decide, by decide, fun k v hv => ?_⟩
  rcases (show k = 0 ∨ k = 1 ∨ k = 2 ∨ k = 3 ∨ 4 ≤ k by omega) with rfl | rfl | rfl | rfl | h
  · have : v ∈ [1, 2] := hv
    simp at this
    show 0 ≤ v ∧ v < (4 : Int)
    omega
  · have : v ∈ [3] := hv
    simp at this
    show 0 ≤ v ∧ v < (4 : Int)
    omega
  · have : v ∈ [3] := hv
    simp at this
    show 0 ≤ v ∧ v < (4 : Int)
    omega
  · have : v ∈ ([] : List Int) := hv
    cases this
  · unfold nxt at hv
    rw [List.getElem?_eq_none (show P5.blocks.length ≤ k from h)] at hv
    cases hv
theorem p5_edges : (edgesN P5).length = 4 := by decide
theorem p5_prev : prevN P5 3 = [1, 2] := by decide
theorem p5_size : sizeTo P5 P5.blocks.length = 4 := by decide
def Alive5 (W : World) (h : Nat) : Prop := ∃ Ak Ab As, Box W h #[.slice Ak 1 1, .slice Ab 1 1, .int .i64 0, .int .i64 0, .slice As 4 4] 36 ∧ FunI W (· < W.heap.size) (.slice Ak 1 1) (.slice Ab 1 1) (.slice As 4 4) P5
def A5_0 (w : World) (h : Nat) : World := w.alloc (.cells #[.int .i64 0] 3)
def A5_1 (w : World) (h : Nat) : World := (A5_0 w h).alloc (.cells #[.int .i64 (-1)] 3)
def A5_2 (w : World) (h : Nat) : World := (A5_1 w h).alloc (.cells #[.int .i64 22, .int .i64 0, .int .i64 0, .int .i64 0, .int .i64 1, .int .i64 2, .slice none 0 0] 38)
def A5_3 (w : World) (h : Nat) : World := (A5_2 w h).alloc (.cells #[.int .i64 21, .int .i64 0, .int .i64 0, .int .i64 0, .int .i64 3, .int .i64 0, .slice none 0 0] 38)
def A5_4 (w : World) (h : Nat) : World := (A5_3 w h).alloc (.cells #[.int .i64 21, .int .i64 0, .int .i64 0, .int .i64 0, .int .i64 3, .int .i64 0, .slice none 0 0] 38)
def A5_5 (w : World) (h : Nat) : World := (A5_4 w h).alloc (.cells #[.int .i64 23, .int .i64 0, .int .i64 0, .int .i64 0, .int .i64 0, .int .i64 0, .slice none 0 0] 38)
def A5_6 (w : World) (h : Nat) : World := (A5_5 w h).alloc (.cells #[.slice (some ⟨h + 1 + 1, 0, none⟩) 1 1, .slice (some ⟨h + 1 + 1 + 1, 0, none⟩) 1 1, .slice (some ⟨h + 1 + 1 + 1 + 1, 0, none⟩) 1 1, .slice (some ⟨h + 1 + 1 + 1 + 1 + 1, 0, none⟩) 1 1] 32)
def A5_7 (w : World) (h : Nat) : World := (A5_6 w h).alloc (.cells #[.slice (some ⟨h, 0, none⟩) 1 1, .slice (some ⟨h + 1, 0, none⟩) 1 1, .int .i64 0, .int .i64 0, .slice (some ⟨h + 1 + 1 + 1 + 1 + 1 + 1, 0, none⟩) 4 4] 36)
theorem A5_0_size (w : World) (h : Nat) : (A5_0 w h).heap.size = w.heap.size + 1 := by unfold A5_0; rw [World.size_alloc]
theorem A5_1_size (w : World) (h : Nat) : (A5_1 w h).heap.size = w.heap.size + 1 + 1 := by unfold A5_1; rw [World.size_alloc, A5_0_size]
theorem A5_2_size (w : World) (h : Nat) : (A5_2 w h).heap.size = w.heap.size + 1 + 1 + 1 := by unfold A5_2; rw [World.size_alloc, A5_1_size]
theorem A5_3_size (w : World) (h : Nat) : (A5_3 w h).heap.size = w.heap.size + 1 + 1 + 1 + 1 := by unfold A5_3; rw [World.size_alloc, A5_2_size]
theorem A5_4_size (w : World) (h : Nat) : (A5_4 w h).heap.size = w.heap.size + 1 + 1 + 1 + 1 + 1 := by unfold A5_4; rw [World.size_alloc, A5_3_size]
theorem A5_5_size (w : World) (h : Nat) : (A5_5 w h).heap.size = w.heap.size + 1 + 1 + 1 + 1 + 1 + 1 := by unfold A5_5; rw [World.size_alloc, A5_4_size]
theorem A5_6_size (w : World) (h : Nat) : (A5_6 w h).heap.size = w.heap.size + 1 + 1 + 1 + 1 + 1 + 1 + 1 := by unfold A5_6; rw [World.size_alloc, A5_5_size]
theorem A5_7_size (w : World) (h : Nat) : (A5_7 w h).heap.size = w.heap.size + 1 + 1 + 1 + 1 + 1 + 1 + 1 + 1 := by unfold A5_7; rw [World.size_alloc, A5_6_size]
theorem A5_up0 {w : World} {h i : Nat} {cs : Array Value} {T : TypeId} (b : Box (A5_0 w h) i cs T) : Box (A5_1 w h) i cs T := Box.alloc b _
theorem A5_up1 {w : World} {h i : Nat} {cs : Array Value} {T : TypeId} (b : Box (A5_1 w h) i cs T) : Box (A5_2 w h) i cs T := Box.alloc b _
theorem A5_up2 {w : World} {h i : Nat} {cs : Array Value} {T : TypeId} (b : Box (A5_2 w h) i cs T) : Box (A5_3 w h) i cs T := Box.alloc b _
theorem A5_up3 {w : World} {h i : Nat} {cs : Array Value} {T : TypeId} (b : Box (A5_3 w h) i cs T) : Box (A5_4 w h) i cs T := Box.alloc b _
theorem A5_up4 {w : World} {h i : Nat} {cs : Array Value} {T : TypeId} (b : Box (A5_4 w h) i cs T) : Box (A5_5 w h) i cs T := Box.alloc b _
theorem A5_up5 {w : World} {h i : Nat} {cs : Array Value} {T : TypeId} (b : Box (A5_5 w h) i cs T) : Box (A5_6 w h) i cs T := Box.alloc b _
theorem A5_up6 {w : World} {h i : Nat} {cs : Array Value} {T : TypeId} (b : Box (A5_6 w h) i cs T) : Box (A5_7 w h) i cs T := Box.alloc b _
theorem A5_box0 (w : World) : Box (A5_7 w w.heap.size) (w.heap.size) #[.int .i64 0] 3 := by
  have b : Box (A5_0 w w.heap.size) w.heap.size #[.int .i64 0] 3 := Box.new _ _ _
  exact A5_up6 (A5_up5 (A5_up4 (A5_up3 (A5_up2 (A5_up1 (A5_up0 (b)))))))
theorem A5_box1 (w : World) : Box (A5_7 w w.heap.size) (w.heap.size + 1) #[.int .i64 (-1)] 3 := by
  have b : Box (A5_1 w w.heap.size) (A5_0 w w.heap.size).heap.size #[.int .i64 (-1)] 3 := Box.new _ _ _
  rw [A5_0_size] at b
  exact A5_up6 (A5_up5 (A5_up4 (A5_up3 (A5_up2 (A5_up1 (b))))))
theorem A5_box2 (w : World) : Box (A5_7 w w.heap.size) (w.heap.size + 1 + 1) #[.int .i64 22, .int .i64 0, .int .i64 0, .int .i64 0, .int .i64 1, .int .i64 2, .slice none 0 0] 38 := by
  have b : Box (A5_2 w w.heap.size) (A5_1 w w.heap.size).heap.size #[.int .i64 22, .int .i64 0, .int .i64 0, .int .i64 0, .int .i64 1, .int .i64 2, .slice none 0 0] 38 := Box.new _ _ _
  rw [A5_1_size] at b
  exact A5_up6 (A5_up5 (A5_up4 (A5_up3 (A5_up2 (b)))))
theorem A5_box3 (w : World) : Box (A5_7 w w.heap.size) (w.heap.size + 1 + 1 + 1) #[.int .i64 21, .int .i64 0, .int .i64 0, .int .i64 0, .int .i64 3, .int .i64 0, .slice none 0 0] 38 := by
  have b : Box (A5_3 w w.heap.size) (A5_2 w w.heap.size).heap.size #[.int .i64 21, .int .i64 0, .int .i64 0, .int .i64 0, .int .i64 3, .int .i64 0, .slice none 0 0] 38 := Box.new _ _ _
  rw [A5_2_size] at b
  exact A5_up6 (A5_up5 (A5_up4 (A5_up3 (b))))
theorem A5_box4 (w : World) : Box (A5_7 w w.heap.size) (w.heap.size + 1 + 1 + 1 + 1) #[.int .i64 21, .int .i64 0, .int .i64 0, .int .i64 0, .int .i64 3, .int .i64 0, .slice none 0 0] 38 := by
  have b : Box (A5_4 w w.heap.size) (A5_3 w w.heap.size).heap.size #[.int .i64 21, .int .i64 0, .int .i64 0, .int .i64 0, .int .i64 3, .int .i64 0, .slice none 0 0] 38 := Box.new _ _ _
  rw [A5_3_size] at b
  exact A5_up6 (A5_up5 (A5_up4 (b)))
theorem A5_box5 (w : World) : Box (A5_7 w w.heap.size) (w.heap.size + 1 + 1 + 1 + 1 + 1) #[.int .i64 23, .int .i64 0, .int .i64 0, .int .i64 0, .int .i64 0, .int .i64 0, .slice none 0 0] 38 := by
  have b : Box (A5_5 w w.heap.size) (A5_4 w w.heap.size).heap.size #[.int .i64 23, .int .i64 0, .int .i64 0, .int .i64 0, .int .i64 0, .int .i64 0, .slice none 0 0] 38 := Box.new _ _ _
  rw [A5_4_size] at b
  exact A5_up6 (A5_up5 (b))
theorem A5_box6 (w : World) : Box (A5_7 w w.heap.size) (w.heap.size + 1 + 1 + 1 + 1 + 1 + 1) #[.slice (some ⟨w.heap.size + 1 + 1, 0, none⟩) 1 1, .slice (some ⟨w.heap.size + 1 + 1 + 1, 0, none⟩) 1 1, .slice (some ⟨w.heap.size + 1 + 1 + 1 + 1, 0, none⟩) 1 1, .slice (some ⟨w.heap.size + 1 + 1 + 1 + 1 + 1, 0, none⟩) 1 1] 32 := by
  have b : Box (A5_6 w w.heap.size) (A5_5 w w.heap.size).heap.size #[.slice (some ⟨w.heap.size + 1 + 1, 0, none⟩) 1 1, .slice (some ⟨w.heap.size + 1 + 1 + 1, 0, none⟩) 1 1, .slice (some ⟨w.heap.size + 1 + 1 + 1 + 1, 0, none⟩) 1 1, .slice (some ⟨w.heap.size + 1 + 1 + 1 + 1 + 1, 0, none⟩) 1 1] 32 := Box.new _ _ _
  rw [A5_5_size] at b
  exact A5_up6 (b)
theorem A5_box7 (w : World) : Box (A5_7 w w.heap.size) (w.heap.size + 1 + 1 + 1 + 1 + 1 + 1 + 1) #[.slice (some ⟨w.heap.size, 0, none⟩) 1 1, .slice (some ⟨w.heap.size + 1, 0, none⟩) 1 1, .int .i64 0, .int .i64 0, .slice (some ⟨w.heap.size + 1 + 1 + 1 + 1 + 1 + 1, 0, none⟩) 4 4] 36 := by
  have b : Box (A5_7 w w.heap.size) (A5_6 w w.heap.size).heap.size #[.slice (some ⟨w.heap.size, 0, none⟩) 1 1, .slice (some ⟨w.heap.size + 1, 0, none⟩) 1 1, .int .i64 0, .int .i64 0, .slice (some ⟨w.heap.size + 1 + 1 + 1 + 1 + 1 + 1, 0, none⟩) 4 4] 36 := Box.new _ _ _
  rw [A5_6_size] at b
  exact b
theorem alive5_of (w : World) : Alive5 (A5_7 w w.heap.size) (w.heap.size + 1 + 1 + 1 + 1 + 1 + 1 + 1) := by
  have r0 : i64R 0 := by unfold i64R; omega
  have b0 := A5_box0 w; have b1 := A5_box1 w; have b2 := A5_box2 w; have b3 := A5_box3 w; have b4 := A5_box4 w; have b5 := A5_box5 w; have b6 := A5_box6 w
  refine ⟨_, _, _, A5_box7 w, ?_, ?_, ?_, r0, r0⟩
  · exact vec_one b0.lt ⟨(b0.cell 0 (v := .int .i64 0) rfl).1, r0⟩ (by omega) (by omega)
  · exact vec_one b1.lt ⟨(b1.cell 0 (v := .int .i64 (-1)) rfl).1, by unfold i64R; omega⟩ (by omega) (by omega)
  · refine ⟨_, 4, rfl, Nat.le_refl _, by omega, fun _ => ⟨_, 0, rfl, b6.lt, fun j y hj => ?_⟩⟩
    have hj4 : j < 4 := (List.getElem?_eq_some_iff.1 hj).1
    rcases (show j = 0 ∨ j = 1 ∨ j = 2 ∨ j = 3 by omega) with rfl | rfl | rfl | rfl
    · injection hj with hj
      subst hj
      refine ⟨_, (b6.cell 0 rfl).1, vec_one b2.lt ⟨.slice none 0 0, ⟨(b2.cell 0 (v := .int .i64 22) rfl).1, (b2.cell 1 (v := .int .i64 0) rfl).1, (b2.cell 2 (v := .int .i64 0) rfl).1, (b2.cell 3 (v := .int .i64 0) rfl).1, (b2.cell 4 (v := .int .i64 1) rfl).1, (b2.cell 5 (v := .int .i64 2) rfl).1, (b2.cell 6 (v := .slice none 0 0) rfl).1⟩, Vec.nil _ _ _, ?_⟩ (by omega) (by omega)⟩
      unfold InsR i64R; simp
    · injection hj with hj
      subst hj
      refine ⟨_, (b6.cell 1 rfl).1, vec_one b3.lt ⟨.slice none 0 0, ⟨(b3.cell 0 (v := .int .i64 21) rfl).1, (b3.cell 1 (v := .int .i64 0) rfl).1, (b3.cell 2 (v := .int .i64 0) rfl).1, (b3.cell 3 (v := .int .i64 0) rfl).1, (b3.cell 4 (v := .int .i64 3) rfl).1, (b3.cell 5 (v := .int .i64 0) rfl).1, (b3.cell 6 (v := .slice none 0 0) rfl).1⟩, Vec.nil _ _ _, ?_⟩ (by omega) (by omega)⟩
      unfold InsR i64R; simp
    · injection hj with hj
      subst hj
      refine ⟨_, (b6.cell 2 rfl).1, vec_one b4.lt ⟨.slice none 0 0, ⟨(b4.cell 0 (v := .int .i64 21) rfl).1, (b4.cell 1 (v := .int .i64 0) rfl).1, (b4.cell 2 (v := .int .i64 0) rfl).1, (b4.cell 3 (v := .int .i64 0) rfl).1, (b4.cell 4 (v := .int .i64 3) rfl).1, (b4.cell 5 (v := .int .i64 0) rfl).1, (b4.cell 6 (v := .slice none 0 0) rfl).1⟩, Vec.nil _ _ _, ?_⟩ (by omega) (by omega)⟩
      unfold InsR i64R; simp
    · injection hj with hj
      subst hj
      refine ⟨_, (b6.cell 3 rfl).1, vec_one b5.lt ⟨.slice none 0 0, ⟨(b5.cell 0 (v := .int .i64 23) rfl).1, (b5.cell 1 (v := .int .i64 0) rfl).1, (b5.cell 2 (v := .int .i64 0) rfl).1, (b5.cell 3 (v := .int .i64 0) rfl).1, (b5.cell 4 (v := .int .i64 0) rfl).1, (b5.cell 5 (v := .int .i64 0) rfl).1, (b5.cell 6 (v := .slice none 0 0) rfl).1⟩, Vec.nil _ _ _, ?_⟩ (by omega) (by omega)⟩
      unfold InsR i64R; simp
theorem A5_below (w : World) : Below w.heap.size w (A5_7 w w.heap.size) := by
  unfold A5_7
  refine Below.alloc ?_ (by rw [A5_6_size]; omega) _
  unfold A5_6
  refine Below.alloc ?_ (by rw [A5_5_size]; omega) _
  unfold A5_5
  refine Below.alloc ?_ (by rw [A5_4_size]; omega) _
  unfold A5_4
  refine Below.alloc ?_ (by rw [A5_3_size]; omega) _
  unfold A5_3
  refine Below.alloc ?_ (by rw [A5_2_size]; omega) _
  unfold A5_2
  refine Below.alloc ?_ (by rw [A5_1_size]; omega) _
  unfold A5_1
  refine Below.alloc ?_ (by rw [A5_0_size]; omega) _
  exact alloc1 w _
def At5 (w : World) (p : Value) (wx : World) : Prop := ∃ h, p = .pointer (some ⟨h, 0, none⟩) ∧ Alive5 wx h ∧ Below w.heap.size w wx
theorem at5_of (w : World) : At5 w (.pointer (some ⟨w.heap.size + 1 + 1 + 1 + 1 + 1 + 1 + 1, 0, none⟩)) (A5_7 w w.heap.size) := ⟨_, rfl, alive5_of w, A5_below w⟩
end Go.Proofs.YtckpaikppgjfnaaGreatDoor
