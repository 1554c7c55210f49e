/- Layer 7: the fixed fact, and the programs that aren't asked about. Condition: no slice of the program is longer than any machine's memory. -/
import Derived.Test.YtlolgahaphmfoaaLJ
import Derived.Test.YtlolgahaphmfoaaYAsk
set_option linter.unusedSimpArgs false
set_option linter.unusedVariables false
namespace Go.Proofs.Ytlolgahaphmfoaa
open Go.RowKit

def P7 : FunV := ⟨[0], [-1], 0, 0, [[⟨21, 0, 0, 0, 1, 0, []⟩], [⟨22, 0, 0, 0, 2, 3, []⟩], [⟨21, 0, 0, 0, 1, 0, []⟩], [⟨23, 0, 0, 0, 0, 0, []⟩]]⟩
theorem p7_0 : nxt P7 (0 : Int).toNat = [1] := by decide
theorem p7_1 : nxt P7 (1 : Int).toNat = [2, 3] := by decide
theorem p7_2 : nxt P7 (2 : Int).toNat = [1] := by decide
theorem p7_3 : nxt P7 (3 : Int).toNat = [] := by decide
theorem p7_order : OrderOf P7 [0, 1, 3, 2] := by
  refine ⟨[true, true, true, true], [2, 3, 1, 0], ?_, rfl⟩
  refine .new (m1 := [true, true, true, true]) (l1 := [2, 3, 1]) rfl ?_ (.nil _ _)
  rw [p7_0]
  refine .new (m1 := [true, true, true, true]) (l1 := [2, 3]) rfl ?_ (.nil _ _)
  rw [p7_1]
  refine .new (m1 := [true, true, true, false]) (l1 := []) rfl ?_ ?_
  · rw [p7_2]
    exact .old rfl (.nil _ _)
  · refine .new (m1 := [true, true, true, true]) (l1 := [2]) rfl ?_ (.nil _ _)
    rw [p7_3]
    exact .nil _ _
theorem p7_ok : FlowOk P7 := by
  refine ⟨by decide, by decide, fun k v hv => ?_⟩
  rcases (show k = 0 ∨ k = 1 ∨ k = 2 ∨ k = 3 ∨ 4 ≤ k by omega) with rfl | rfl | rfl | rfl | h
  · have : v ∈ [1] := hv
    simp at this
    show 0 ≤ v ∧ v < (4 : Int)
    omega
  · have : v ∈ [2, 3] := hv
    simp at this
    show 0 ≤ v ∧ v < (4 : Int)
    omega
  · have : v ∈ [1] := hv
    simp at this
    show 0 ≤ v ∧ v < (4 : Int)
    omega
  · have : v ∈ ([] : List Int) := hv
    simp at this
  · have : nxt P7 k = [] := by
      unfold nxt
      rw [List.getElem?_eq_none (by show 4 ≤ k; exact h)]
    rw [this] at hv
    simp at hv
theorem p7_turns : turnsN P7 [0, 1, 3, 2] = [(2, 1)] := by decide
theorem p7_rch (x : Nat) (h : (x : Int) ∈ [(0 : Int), 1, 3, 2]) : Rch P7 x := ⟨_, p7_order, h⟩
theorem p7_back {A : List Int} (hA : AbvOf P7 A) {p : Int → Int → Bool} (hp : ∀ a b, p a b = true ↔ domQ A a b) : backN P7 [0, 1, 3, 2] p = [(2, 1)] := by
  have hd : domQ A (1 : Nat) (2 : Nat) := (domQ_ref p7_ok (by decide) hA 1 2).2 ⟨p7_rch 1 (by simp), p7_rch 2 (by simp), .inr fun hw => by
    have := hw (fun x => x = 0) (fun _ => rfl) (fun x v hx hv hne => by
      subst hx
      have : (v : Int) ∈ [1] := hv
      simp at this
      omega)
    omega⟩
  have h1 : p 1 2 = true := (hp _ _).2 hd
  unfold backN
  rw [p7_turns]
  simp [backB, h1]
theorem p7_heads : IsHeads [(2, 1)] [1] := ⟨by simp, fun y => by
  constructor
  · intro h; simp at h; subst h; exact ⟨2, by simp⟩
  · rintro ⟨u, h⟩; simp at h; simp [h.2]⟩
theorem p7_body : IsBody P7 [(2, 1)] 1 [1, 2] := by
  refine ⟨by simp, fun y => ?_⟩
  constructor
  · intro h
    simp at h
    rcases h with rfl | rfl
    · exact ⟨1, rfl, by decide, 2, by simp, .inl rfl⟩
    · exact ⟨2, rfl, by decide, 2, by simp, .inr ⟨p7_rch 2 (by simp), by decide, fun P hP _ => hP⟩⟩
  · rintro ⟨x, rfl, hx, u, hu, hl⟩
    simp at hu
    subst hu
    have hx4 : x < 4 := hx
    rcases hl with hl | ⟨-, hz⟩
    · simp; omega
    · rcases (show x = 0 ∨ x = 1 ∨ x = 2 ∨ x = 3 by omega) with rfl | rfl | rfl | rfl
      · have := hz.2 (fun z => z = 0) rfl (fun x hx v hv hne => by
          obtain rfl : x = 0 := by omega
          have : v ∈ [1] := hv
          simp at this
          omega)
        omega
      · simp
      · simp
      · have := hz.2 (fun z => z = 3) rfl (fun x hx v hv hne => by
          obtain rfl : x = 3 := by omega
          have : v ∈ ([] : List Int) := hv
          simp at this)
        omega
theorem TnW.ab {w : World} {g n : Nat} {tn : Nat → Nat} (h : TnW w g n tn) : AbW w g ((List.range n).map (fun b : Nat => ((tn b : Nat) : Int))) := by
  unfold AbW
  rw [List.map_map]
  exact h
theorem TnW.ints {w : World} {g n : Nat} {tn : Nat → Nat} (h : TnW w g n tn) (hm : n ≤ 1000) (hr : ∀ b, tn b ≤ 1000000) : IntsV w (· < w.heap.size) (.slice (some ⟨g, 0, none⟩) n n) ((List.range n).map (fun b : Nat => ((tn b : Nat) : Int))) :=
  h.ab.ints (by simp) hm fun z hz => by
    simp only [List.mem_map] at hz
    obtain ⟨b, -, rfl⟩ := hz
    have := hr b
    unfold i64R
    omega
theorem p7_deep {BB : Int → List Int} (h : BB 1 = [1, 2]) : (List.range 4).map (fun b : Nat => ((dpT [1] BB 1 0 b : Nat) : Int)) = [0, 1, 1, 0] := by
  simp [dpT, List.range, List.range.loop, h]
def Alive7 (W : World) (h : Nat) : Prop := ∃ Ak Ab As, Box W h #[.slice Ak 1 1, .slice Ab 1 1, .int .i64 0, .int .i64 0, .slice As 4 4] 30 ∧ FunI W (· < W.heap.size) (.slice Ak 1 1) (.slice Ab 1 1) (.slice As 4 4) P7
def A7_0 (w : World) (h : Nat) : World := w.alloc (.cells #[.int .i64 0] 3)
def A7_1 (w : World) (h : Nat) : World := (A7_0 w h).alloc (.cells #[.int .i64 (-1)] 3)
def A7_2 (w : World) (h : Nat) : World := (A7_1 w h).alloc (.cells #[.int .i64 21, .int .i64 0, .int .i64 0, .int .i64 0, .int .i64 1, .int .i64 0, .slice none 0 0] 45)
def A7_3 (w : World) (h : Nat) : World := (A7_2 w h).alloc (.cells #[.int .i64 22, .int .i64 0, .int .i64 0, .int .i64 0, .int .i64 2, .int .i64 3, .slice none 0 0] 45)
def A7_4 (w : World) (h : Nat) : World := (A7_3 w h).alloc (.cells #[.int .i64 21, .int .i64 0, .int .i64 0, .int .i64 0, .int .i64 1, .int .i64 0, .slice none 0 0] 45)
def A7_5 (w : World) (h : Nat) : World := (A7_4 w h).alloc (.cells #[.int .i64 23, .int .i64 0, .int .i64 0, .int .i64 0, .int .i64 0, .int .i64 0, .slice none 0 0] 45)
def A7_6 (w : World) (h : Nat) : World := (A7_5 w h).alloc (.cells #[.slice (some ⟨h + 1 + 1, 0, none⟩) 1 1, .slice (some ⟨h + 1 + 1 + 1, 0, none⟩) 1 1, .slice (some ⟨h + 1 + 1 + 1 + 1, 0, none⟩) 1 1, .slice (some ⟨h + 1 + 1 + 1 + 1 + 1, 0, none⟩) 1 1] 48)
def A7_7 (w : World) (h : Nat) : World := (A7_6 w h).alloc (.cells #[.slice (some ⟨h, 0, none⟩) 1 1, .slice (some ⟨h + 1, 0, none⟩) 1 1, .int .i64 0, .int .i64 0, .slice (some ⟨h + 1 + 1 + 1 + 1 + 1 + 1, 0, none⟩) 4 4] 30)
theorem A7_0_size (w : World) (h : Nat) : (A7_0 w h).heap.size = w.heap.size + 1 := by unfold A7_0; rw [World.size_alloc]
theorem A7_1_size (w : World) (h : Nat) : (A7_1 w h).heap.size = w.heap.size + 1 + 1 := by unfold A7_1; rw [World.size_alloc, A7_0_size]
theorem A7_2_size (w : World) (h : Nat) : (A7_2 w h).heap.size = w.heap.size + 1 + 1 + 1 := by unfold A7_2; rw [World.size_alloc, A7_1_size]
theorem A7_3_size (w : World) (h : Nat) : (A7_3 w h).heap.size = w.heap.size + 1 + 1 + 1 + 1 := by unfold A7_3; rw [World.size_alloc, A7_2_size]
theorem A7_4_size (w : World) (h : Nat) : (A7_4 w h).heap.size = w.heap.size + 1 + 1 + 1 + 1 + 1 := by unfold A7_4; rw [World.size_alloc, A7_3_size]
theorem A7_5_size (w : World) (h : Nat) : (A7_5 w h).heap.size = w.heap.size + 1 + 1 + 1 + 1 + 1 + 1 := by unfold A7_5; rw [World.size_alloc, A7_4_size]
theorem A7_6_size (w : World) (h : Nat) : (A7_6 w h).heap.size = w.heap.size + 1 + 1 + 1 + 1 + 1 + 1 + 1 := by unfold A7_6; rw [World.size_alloc, A7_5_size]
theorem A7_7_size (w : World) (h : Nat) : (A7_7 w h).heap.size = w.heap.size + 1 + 1 + 1 + 1 + 1 + 1 + 1 + 1 := by unfold A7_7; rw [World.size_alloc, A7_6_size]
theorem A7_up0 {w : World} {h i : Nat} {cs : Array Value} {T : TypeId} (b : Box (A7_0 w h) i cs T) : Box (A7_1 w h) i cs T := Box.alloc b _
theorem A7_up1 {w : World} {h i : Nat} {cs : Array Value} {T : TypeId} (b : Box (A7_1 w h) i cs T) : Box (A7_2 w h) i cs T := Box.alloc b _
theorem A7_up2 {w : World} {h i : Nat} {cs : Array Value} {T : TypeId} (b : Box (A7_2 w h) i cs T) : Box (A7_3 w h) i cs T := Box.alloc b _
theorem A7_up3 {w : World} {h i : Nat} {cs : Array Value} {T : TypeId} (b : Box (A7_3 w h) i cs T) : Box (A7_4 w h) i cs T := Box.alloc b _
theorem A7_up4 {w : World} {h i : Nat} {cs : Array Value} {T : TypeId} (b : Box (A7_4 w h) i cs T) : Box (A7_5 w h) i cs T := Box.alloc b _
theorem A7_up5 {w : World} {h i : Nat} {cs : Array Value} {T : TypeId} (b : Box (A7_5 w h) i cs T) : Box (A7_6 w h) i cs T := Box.alloc b _
theorem A7_up6 {w : World} {h i : Nat} {cs : Array Value} {T : TypeId} (b : Box (A7_6 w h) i cs T) : Box (A7_7 w h) i cs T := Box.alloc b _
theorem A7_box0 (w : World) : Box (A7_7 w w.heap.size) (w.heap.size) #[.int .i64 0] 3 := by
  have b : Box (A7_0 w w.heap.size) w.heap.size #[.int .i64 0] 3 := Box.new _ _ _
  exact A7_up6 (A7_up5 (A7_up4 (A7_up3 (A7_up2 (A7_up1 (A7_up0 (b)))))))
theorem A7_box1 (w : World) : Box (A7_7 w w.heap.size) (w.heap.size + 1) #[.int .i64 (-1)] 3 := by
  have b : Box (A7_1 w w.heap.size) (A7_0 w w.heap.size).heap.size #[.int .i64 (-1)] 3 := Box.new _ _ _
  rw [A7_0_size] at b
  exact A7_up6 (A7_up5 (A7_up4 (A7_up3 (A7_up2 (A7_up1 (b))))))
theorem A7_box2 (w : World) : Box (A7_7 w w.heap.size) (w.heap.size + 1 + 1) #[.int .i64 21, .int .i64 0, .int .i64 0, .int .i64 0, .int .i64 1, .int .i64 0, .slice none 0 0] 45 := by
  have b : Box (A7_2 w w.heap.size) (A7_1 w w.heap.size).heap.size #[.int .i64 21, .int .i64 0, .int .i64 0, .int .i64 0, .int .i64 1, .int .i64 0, .slice none 0 0] 45 := Box.new _ _ _
  rw [A7_1_size] at b
  exact A7_up6 (A7_up5 (A7_up4 (A7_up3 (A7_up2 (b)))))
theorem A7_box3 (w : World) : Box (A7_7 w w.heap.size) (w.heap.size + 1 + 1 + 1) #[.int .i64 22, .int .i64 0, .int .i64 0, .int .i64 0, .int .i64 2, .int .i64 3, .slice none 0 0] 45 := by
  have b : Box (A7_3 w w.heap.size) (A7_2 w w.heap.size).heap.size #[.int .i64 22, .int .i64 0, .int .i64 0, .int .i64 0, .int .i64 2, .int .i64 3, .slice none 0 0] 45 := Box.new _ _ _
  rw [A7_2_size] at b
  exact A7_up6 (A7_up5 (A7_up4 (A7_up3 (b))))
theorem A7_box4 (w : World) : Box (A7_7 w w.heap.size) (w.heap.size + 1 + 1 + 1 + 1) #[.int .i64 21, .int .i64 0, .int .i64 0, .int .i64 0, .int .i64 1, .int .i64 0, .slice none 0 0] 45 := by
  have b : Box (A7_4 w w.heap.size) (A7_3 w w.heap.size).heap.size #[.int .i64 21, .int .i64 0, .int .i64 0, .int .i64 0, .int .i64 1, .int .i64 0, .slice none 0 0] 45 := Box.new _ _ _
  rw [A7_3_size] at b
  exact A7_up6 (A7_up5 (A7_up4 (b)))
theorem A7_box5 (w : World) : Box (A7_7 w w.heap.size) (w.heap.size + 1 + 1 + 1 + 1 + 1) #[.int .i64 23, .int .i64 0, .int .i64 0, .int .i64 0, .int .i64 0, .int .i64 0, .slice none 0 0] 45 := by
  have b : Box (A7_5 w w.heap.size) (A7_4 w w.heap.size).heap.size #[.int .i64 23, .int .i64 0, .int .i64 0, .int .i64 0, .int .i64 0, .int .i64 0, .slice none 0 0] 45 := Box.new _ _ _
  rw [A7_4_size] at b
  exact A7_up6 (A7_up5 (b))
theorem A7_box6 (w : World) : Box (A7_7 w w.heap.size) (w.heap.size + 1 + 1 + 1 + 1 + 1 + 1) #[.slice (some ⟨w.heap.size + 1 + 1, 0, none⟩) 1 1, .slice (some ⟨w.heap.size + 1 + 1 + 1, 0, none⟩) 1 1, .slice (some ⟨w.heap.size + 1 + 1 + 1 + 1, 0, none⟩) 1 1, .slice (some ⟨w.heap.size + 1 + 1 + 1 + 1 + 1, 0, none⟩) 1 1] 48 := by
  have b : Box (A7_6 w w.heap.size) (A7_5 w w.heap.size).heap.size #[.slice (some ⟨w.heap.size + 1 + 1, 0, none⟩) 1 1, .slice (some ⟨w.heap.size + 1 + 1 + 1, 0, none⟩) 1 1, .slice (some ⟨w.heap.size + 1 + 1 + 1 + 1, 0, none⟩) 1 1, .slice (some ⟨w.heap.size + 1 + 1 + 1 + 1 + 1, 0, none⟩) 1 1] 48 := Box.new _ _ _
  rw [A7_5_size] at b
  exact A7_up6 (b)
theorem A7_box7 (w : World) : Box (A7_7 w w.heap.size) (w.heap.size + 1 + 1 + 1 + 1 + 1 + 1 + 1) #[.slice (some ⟨w.heap.size, 0, none⟩) 1 1, .slice (some ⟨w.heap.size + 1, 0, none⟩) 1 1, .int .i64 0, .int .i64 0, .slice (some ⟨w.heap.size + 1 + 1 + 1 + 1 + 1 + 1, 0, none⟩) 4 4] 30 := by
  have b : Box (A7_7 w w.heap.size) (A7_6 w w.heap.size).heap.size #[.slice (some ⟨w.heap.size, 0, none⟩) 1 1, .slice (some ⟨w.heap.size + 1, 0, none⟩) 1 1, .int .i64 0, .int .i64 0, .slice (some ⟨w.heap.size + 1 + 1 + 1 + 1 + 1 + 1, 0, none⟩) 4 4] 30 := Box.new _ _ _
  rw [A7_6_size] at b
  exact b
theorem alive7_of (w : World) : Alive7 (A7_7 w w.heap.size) (w.heap.size + 1 + 1 + 1 + 1 + 1 + 1 + 1) := by
  have r0 : i64R 0 := by unfold i64R; omega
  have b0 := A7_box0 w; have b1 := A7_box1 w; have b2 := A7_box2 w; have b3 := A7_box3 w; have b4 := A7_box4 w; have b5 := A7_box5 w; have b6 := A7_box6 w
  refine ⟨_, _, _, A7_box7 w, ?_, ?_, ?_, r0, r0⟩
  · exact vec_one b0.lt ⟨(b0.cell 0 (v := .int .i64 0) rfl).1, r0⟩ (by omega) (by omega)
  · exact vec_one b1.lt ⟨(b1.cell 0 (v := .int .i64 (-1)) rfl).1, by unfold i64R; omega⟩ (by omega) (by omega)
  · refine ⟨_, 4, rfl, Nat.le_refl _, by omega, fun _ => ⟨_, 0, rfl, b6.lt, fun j y hj => ?_⟩⟩
    have hj4 : j < 4 := (List.getElem?_eq_some_iff.1 hj).1
    rcases (show j = 0 ∨ j = 1 ∨ j = 2 ∨ j = 3 by omega) with rfl | rfl | rfl | rfl
    · injection hj with hj
      subst hj
      refine ⟨_, (b6.cell 0 rfl).1, vec_one b2.lt ⟨.slice none 0 0, ⟨(b2.cell 0 (v := .int .i64 21) rfl).1, (b2.cell 1 (v := .int .i64 0) rfl).1, (b2.cell 2 (v := .int .i64 0) rfl).1, (b2.cell 3 (v := .int .i64 0) rfl).1, (b2.cell 4 (v := .int .i64 1) rfl).1, (b2.cell 5 (v := .int .i64 0) rfl).1, (b2.cell 6 (v := .slice none 0 0) rfl).1⟩, Vec.nil _ _ _, ?_⟩ (by omega) (by omega)⟩
      unfold InsR i64R; simp
    · injection hj with hj
      subst hj
      refine ⟨_, (b6.cell 1 rfl).1, vec_one b3.lt ⟨.slice none 0 0, ⟨(b3.cell 0 (v := .int .i64 22) rfl).1, (b3.cell 1 (v := .int .i64 0) rfl).1, (b3.cell 2 (v := .int .i64 0) rfl).1, (b3.cell 3 (v := .int .i64 0) rfl).1, (b3.cell 4 (v := .int .i64 2) rfl).1, (b3.cell 5 (v := .int .i64 3) rfl).1, (b3.cell 6 (v := .slice none 0 0) rfl).1⟩, Vec.nil _ _ _, ?_⟩ (by omega) (by omega)⟩
      unfold InsR i64R; simp
    · injection hj with hj
      subst hj
      refine ⟨_, (b6.cell 2 rfl).1, vec_one b4.lt ⟨.slice none 0 0, ⟨(b4.cell 0 (v := .int .i64 21) rfl).1, (b4.cell 1 (v := .int .i64 0) rfl).1, (b4.cell 2 (v := .int .i64 0) rfl).1, (b4.cell 3 (v := .int .i64 0) rfl).1, (b4.cell 4 (v := .int .i64 1) rfl).1, (b4.cell 5 (v := .int .i64 0) rfl).1, (b4.cell 6 (v := .slice none 0 0) rfl).1⟩, Vec.nil _ _ _, ?_⟩ (by omega) (by omega)⟩
      unfold InsR i64R; simp
    · injection hj with hj
      subst hj
      refine ⟨_, (b6.cell 3 rfl).1, vec_one b5.lt ⟨.slice none 0 0, ⟨(b5.cell 0 (v := .int .i64 23) rfl).1, (b5.cell 1 (v := .int .i64 0) rfl).1, (b5.cell 2 (v := .int .i64 0) rfl).1, (b5.cell 3 (v := .int .i64 0) rfl).1, (b5.cell 4 (v := .int .i64 0) rfl).1, (b5.cell 5 (v := .int .i64 0) rfl).1, (b5.cell 6 (v := .slice none 0 0) rfl).1⟩, Vec.nil _ _ _, ?_⟩ (by omega) (by omega)⟩
      unfold InsR i64R; simp
theorem A7_below (w : World) : Below w.heap.size w (A7_7 w w.heap.size) := by
  unfold A7_7
  refine Below.alloc ?_ (by rw [A7_6_size]; omega) _
  unfold A7_6
  refine Below.alloc ?_ (by rw [A7_5_size]; omega) _
  unfold A7_5
  refine Below.alloc ?_ (by rw [A7_4_size]; omega) _
  unfold A7_4
  refine Below.alloc ?_ (by rw [A7_3_size]; omega) _
  unfold A7_3
  refine Below.alloc ?_ (by rw [A7_2_size]; omega) _
  unfold A7_2
  refine Below.alloc ?_ (by rw [A7_1_size]; omega) _
  unfold A7_1
  refine Below.alloc ?_ (by rw [A7_0_size]; omega) _
  exact alloc1 w _
def At7 (w : World) (p : Value) (wx : World) : Prop := ∃ h, p = .pointer (some ⟨h, 0, none⟩) ∧ Alive7 wx h ∧ Below w.heap.size w wx
theorem at7_of (w : World) : At7 w (.pointer (some ⟨w.heap.size + 1 + 1 + 1 + 1 + 1 + 1 + 1, 0, none⟩)) (A7_7 w w.heap.size) := ⟨_, rfl, alive7_of w, A7_below w⟩
set_option maxHeartbeats 2000000 in
set_option maxRecDepth 100000 in
theorem alive7_any (w : World) : Calls Try.prog 8 #[] w fun e w' => e = .returned (.bool true) ∧ Below w.heap.size w w' := by
  go_enter Try.func8, Try.ntmps8
  go_upto_region 1 with (fail)
  go_cut [1] from 2 (fun p wx => At7 w p wx)
  case first =>
    go_wp2
    go_meet
    case rel => exact at7_of w
  case rest =>
    obtain ⟨h, rfl, ⟨Ak, Ab, As, hbx, hfi⟩, hbc⟩ := hcut
    have HBC := hide hbc
    have HK5 := hide (fun (W : World) (hW : Below wc.heap.size wc W) => And.intro ((hbx.below hW).cell 0 (v := .slice Ak 1 1) rfl).1 (And.intro ((hbx.below hW).cell 1 (v := .slice Ab 1 1) rfl).1 (And.intro ((hbx.below hW).cell 2 (v := .int .i64 0) rfl).1 (And.intro ((hbx.below hW).cell 3 (v := .int .i64 0) rfl).1 ((hbx.below hW).cell 4 (v := .slice As 4 4) rfl).1))))
    have kf := fun (W : World) (hW : Below wc.heap.size wc W) => hfi.keep (w := wc) (up hW (Nat.le_refl _)) (fun _ h => h)
    obtain ⟨A, hA⟩ := AbvOf.ex (Nat.le_refl _) hfi p7_ok (by decide)
    obtain ⟨p, hp⟩ : ∃ p : Int → Int → Bool, ∀ a b, p a b = true ↔ domQ A a b := ⟨fun a b => @decide (domQ A a b) (Classical.propDecidable _), fun a b => by simp⟩
    have hbk := p7_back hA hp
    obtain ⟨BB, hBB⟩ := IsBody.ex P7 [(2, 1)]
    have hB1 : BB 1 = [1, 2] := (hBB 1).one p7_body
    have HBK := hide (fun (W : World) (hW : Below wc.heap.size wc W) => (show Calls Try.prog 13 #[.agg #[.slice Ak 1 1, .slice Ab 1 1, .int .i64 0, .int .i64 0, .slice As 4 4]] W fun e w' => ∃ be oe c, e = .returned (.slice (some ⟨be, oe, none⟩) 1 c) ∧ be < w'.heap.size ∧ 1 ≤ c ∧ w'.cell? ⟨be, oe, none⟩ = some (.int .i64 2) ∧ w'.cell? ⟨be, oe + 1, none⟩ = some (.int .i64 1) ∧ Below W.heap.size W w' from
      (lback_any _ _ _ P7 _ p7_order A hA p hp W wc.heap.size hW.size (kf W hW) p7_ok (by decide)).mono fun e w' ⟨v, q1, q2, q3⟩ => by
        rw [hbk] at q2
        obtain ⟨A', c, h4, h5, -, h6⟩ := q2.sl
        obtain ⟨be, oe, rfl, hb, hc⟩ := h6 (by simp)
        obtain ⟨y1, y2⟩ := hc 0 (2, 1) rfl
        exact ⟨be, oe, c, by rw [q1, h4]; rfl, hb, by simpa using h5, by simpa using y1, by simpa using y2, q3⟩))
    have HBD := hide (fun (W : World) (hW : Below wc.heap.size wc W) => (show Calls Try.prog 20 #[.agg #[.slice Ak 1 1, .slice Ab 1 1, .int .i64 0, .int .i64 0, .slice As 4 4], .int .i64 1] W fun e w' => ∃ v, e = .returned v ∧ Ow w' W.heap.size 3 .i64 v [1, 2] ∧ Below W.heap.size W w' from
      (lbody_any _ _ _ P7 _ p7_order A hA p hp 1 [1, 2] (by rw [hbk]; exact p7_body) W wc.heap.size hW.size (kf W hW) p7_ok (by decide))))
    have HPL := hide (fun (W : World) (hW : Below wc.heap.size wc W) => (show Calls Try.prog 15 #[.agg #[.slice Ak 1 1, .slice Ab 1 1, .int .i64 0, .int .i64 0, .slice As 4 4]] W fun e w' => e = .returned (.bool true) ∧ Below W.heap.size W w' from
      (lplain_any _ _ _ P7 _ p7_order A hA p hp W wc.heap.size hW.size (kf W hW) p7_ok (by decide)).mono fun e w' ⟨q1, q2⟩ => ⟨by rw [q1, hbk, p7_turns]; rfl, q2⟩))
    have HDP := hide (fun (W : World) (hW : Below wc.heap.size wc W) => (show Calls Try.prog 22 #[.agg #[.slice Ak 1 1, .slice Ab 1 1, .int .i64 0, .int .i64 0, .slice As 4 4]] W fun e w' => ∃ ga, e = .returned (.slice (some ⟨ga, 0, none⟩) 4 4) ∧ AbW w' ga [0, 1, 1, 0] ∧ Below W.heap.size W w' from
      (ldeep_any _ _ _ P7 _ p7_order A hA p hp BB (by rw [hbk]; exact hBB) [1] (by rw [hbk]; exact p7_heads) W wc.heap.size hW.size (kf W hW) p7_ok (by decide)).mono fun e w' ⟨g, q1, q2, q3, q4⟩ => ⟨g, q1, by rw [← p7_deep hB1]; exact q2.ab, q4⟩))
    have HI1 := hide (fun (W : World) (v : Value) (b : Nat) (h : Ow W b 3 .i64 v [1, 2]) =>
      (show Calls Try.prog 17 #[v, .slice (some ⟨W.heap.size, 0, none⟩) 2 2] (W.alloc (.cells #[.int .i64 1, .int .i64 2] 3)) fun e w' => e = .returned (.bool true) ∧ Below W.heap.size W w' by
        have hz : ∀ z ∈ [(1 : Int), 2], i64R z := by unfold i64R; simp
        have h1 : IntsV (W.alloc (.cells #[.int .i64 1, .int .i64 2] 3)) (· < W.heap.size + 1) v [1, 2] := by
          have h := (h.alloc (.cells #[.int .i64 1, .int .i64 2] 3)).intsV hz
          rwa [World.size_alloc] at h
        have h2 := (Sl.lit W 3 .i64 #[.int .i64 1, .int .i64 2] [1, 2] rfl).vec (c := 2) (by decide) (by omega) hz
        exact (rints_any _ _ [1, 2] [1, 2] _ _ h1 h2).mono fun e w' ⟨q1, q, q2⟩ => ⟨by rw [q1]; simp, by rw [q2]; exact below_drewN (alloc1 W _) q⟩))
    have HI2 := hide (fun (W : World) (ga : Nat) (h : AbW W ga [0, 1, 1, 0]) =>
      (show Calls Try.prog 17 #[.slice (some ⟨ga, 0, none⟩) 4 4, .slice (some ⟨W.heap.size, 0, none⟩) 4 4] (W.alloc (.cells #[.int .i64 0, .int .i64 1, .int .i64 1, .int .i64 0] 3)) fun e w' => e = .returned (.bool true) ∧ Below W.heap.size W w' by
        have hz : ∀ z ∈ [(0 : Int), 1, 1, 0], i64R z := by unfold i64R; simp
        have h1 : IntsV (W.alloc (.cells #[.int .i64 0, .int .i64 1, .int .i64 1, .int .i64 0] 3)) (· < W.heap.size + 1) (.slice (some ⟨ga, 0, none⟩) 4 4) [0, 1, 1, 0] := by
          have h := AbW.ints (n := 4) (show AbW (W.alloc (.cells #[.int .i64 0, .int .i64 1, .int .i64 1, .int .i64 0] 3)) ga [0, 1, 1, 0] from Box.alloc h _) rfl (by omega) hz
          rwa [World.size_alloc] at h
        have h2 := (Sl.lit W 3 .i64 #[.int .i64 0, .int .i64 1, .int .i64 1, .int .i64 0] [0, 1, 1, 0] rfl).vec (c := 4) (by decide) (by omega) hz
        exact (rints_any _ _ [0, 1, 1, 0] [0, 1, 1, 0] _ _ h1 h2).mono fun e w' ⟨q1, q, q2⟩ => ⟨by rw [q1]; simp, by rw [q2]; exact below_drewN (alloc1 W _) q⟩))
    obtain ⟨c0, c1, c2, c3, c4⟩ := HK5.out wc (Below.refl _ _)
    have hlh := hbx.lt
    clear hbx hfi hbc kf hA hp hbk hBB hB1
    go_wp2_with (first
      | (go_at_call 17; refine (HI2.out w7 ga HA7.out).mono ?_; rintro e w8 ⟨rfl, hb8⟩; have HC8 := hide (HC7.out.trans (hb8.mono HC7.out.size)); clear hb8)
      | (go_at_call 22; refine (HDP.out w6 HC6.out).mono ?_; rintro e w7 ⟨ga, rfl, ha7, hb7⟩; have HC7 := hide (HC6.out.trans (hb7.mono HC6.out.size)); have HA7 := hide ha7; clear hb7 ha7)
      | (go_at_call 15; refine (HPL.out w5 HC5.out).mono ?_; rintro e w6 ⟨rfl, hb6⟩; have hc6 := HC5.out.trans (hb6.mono HC5.out.size); obtain ⟨z0, z1, z2, z3, z4⟩ := HK5.out w6 hc6; have HC6 := hide hc6; have lz := hc6.size; clear hb6 hc6)
      | (go_at_call 17; refine (HI1.out w4 v4 _ HO4.out).mono ?_; rintro e w5 ⟨rfl, hb5⟩; have hc5 := HC4.out.trans (hb5.mono HC4.out.size); obtain ⟨y0, y1, y2, y3, y4⟩ := HK5.out w5 hc5; have HC5 := hide hc5; have ly := hc5.size; clear hb5 hc5)
      | (go_at_call 20; refine (HBD.out w3 HC3.out).mono ?_; rintro e w4 ⟨v4, rfl, ho4, hb4⟩; have HC4 := hide (HC3.out.trans (hb4.mono HC3.out.size)); have HO4 := hide ho4; clear hb4 ho4)
      | (go_at_call 13; refine (HBK.out wc (Below.refl _ _)).mono ?_; rintro e w3 ⟨be, oe, ce, rfl, lbe, hce, d1, d2, hb3⟩; obtain ⟨x0, x1, x2, x3, x4⟩ := HK5.out w3 hb3; have HC3 := hide hb3; have lx := hb3.size; clear hb3))
    go_ret
    exact ⟨by simp, HBC.out.trans (HC8.out.mono HBC.out.size)⟩
set_option maxHeartbeats 1000000 in
set_option maxRecDepth 100000 in
theorem out7_any (vp : Value) (p : List FunV) (w : World) (B : Nat) (hB : B ≤ w.heap.size) (hp : FunsV w (· < B) vp p) (hsz : progSize p) :
    Calls Try.prog 9 #[.agg #[vp]] w fun e w' => ∃ b : Bool, e = .returned (.bool b) ∧ Hid (b = false → progB4 p = true) ∧ Below w.heap.size w w' := by
  have HG := hide (fun (W : World) (hW : Below w.heap.size w W) => great2_any vp p W B (by have := hW.size; omega) (hp.keep (up hW hB) (fun _ h => h)) hsz)
  have HCK := hide (fun (W : World) (hW : Below w.heap.size w W) (hf : progFew p) => check4_any vp p W B (by have := hW.size; omega) (hp.keep (up hW hB) (fun _ h => h)) hf)
  have HFEW := hide (fun h : ∀ f ∈ p, smallF f => smallF.few h)
  obtain ⟨A, c, rfl, hpc, hpm⟩ := hp.open'
  have HTWO := hide (two_chk p)
  generalize chkN4 p = ck at *
  have HP := hide hp
  obtain ⟨lp, hlp⟩ : ∃ lp, p.length = lp := ⟨_, rfl⟩
  have HLP := hide hlp
  rw [hlp] at HG HCK hpc HP ⊢
  clear hp hsz hlp
  go_enter Try.func9, Try.ntmps9
  go_upto_region 1 with (fail)
  obtain ⟨w0, hw0⟩ : ∃ w0, w0 = w.alloc (.cells #[.slice A lp c] 24) := ⟨_, rfl⟩
  have HX0 := hide (show Box w0 w.heap.size #[.slice A lp c] 24 by rw [hw0]; exact Box.new w _ _)
  have HB0 := hide (show Below w.heap.size w w0 by rw [hw0]; exact alloc1 w _)
  have hl0 := HX0.out.lt
  have HP0 := hide (HP.out.keep (up HB0.out hB) (fun _ h => h))
  have hB0 : B ≤ w0.heap.size := by omega
  rw [← hw0]
  clear hw0
  have x0 := (HX0.out.cell 0 (v := .slice A lp c) rfl).1
  go_wp2
  go_loopw [3, 4] (fun nn i wr => ∃ m k : Nat, k ≤ lp ∧ nn = .int .i64 (m : Int) ∧ i = .int .i64 (k : Int) ∧ wr = w0) (fun _ i _ => lp - (intOf i).toNat)
  case atStart => exact ⟨0, 0, Nat.zero_le _, rfl, rfl, rfl⟩
  case round =>
    obtain ⟨m, k, hk, rfl, rfl, rfl⟩ := hrel
    by_cases hgo : k < lp ∧ k < 9
    · obtain ⟨hlt, h9⟩ := hgo
      obtain ⟨f, hf⟩ : ∃ f, p[k]? = some f := ⟨_, List.getElem?_eq_getElem (by have := HLP.out; omega)⟩
      obtain ⟨b, o, Ak, ck', Ab, cb, As, cs, hA, hbb, ⟨e0, e1, e2, e3, e4⟩, hi⟩ := HP0.out.get hf
      subst hA
      have hbs : b < wr.heap.size := by omega
      obtain ⟨l, hl⟩ : ∃ l, f.blocks.length = l := ⟨_, rfl⟩
      rw [hl] at e4
      clear hi hf hl e0 e1 e2 e3
      by_cases hml : m ≤ l
      · have hm1 : (m : Int) ≤ (l : Int) := by omega
        have hm2 : max (m : Int) (l : Int) = (l : Int) := by omega
        clear hml
        go_wp2
        go_roundw
        case rel => exact ⟨l, k + 1, by omega, by first | rfl | (simp [*]; done), by go_num, by first | rfl | trivial⟩
        case measure => simp [intOf]; omega
      · have hm2 : max (m : Int) (l : Int) = (m : Int) := by omega
        have hm1 : ¬ (m : Int) ≤ (l : Int) := by omega
        clear hml
        go_wp2
        go_roundw
        case rel => exact ⟨m, k + 1, by omega, by first | rfl | (simp [*]; done), by go_num, by first | rfl | trivial⟩
        case measure => simp [intOf]; omega
    · have hend : ¬ k < lp ∨ (k < lp ∧ ¬ k < 9) := by omega
      clear hgo
      by_cases hm : 20 < m
      · rcases hend with hlt | ⟨hlt, h9⟩
        · go_wp2
          go_ret
          exact .inr ⟨rfl, hide trivial, HB0.out⟩
        · go_wp2
          go_ret
          exact .inr ⟨rfl, hide trivial, HB0.out⟩
      · rcases HTWO.out with ⟨rfl, hpb⟩ | rfl
        · have HPB := hide hpb
          clear hpb
          rcases hend with hlt | ⟨hlt, h9⟩
          all_goals
            go_wp2_with (first
              | (go_at_call 28; refine (HCK.out w2 HB2.out (HFEW.out (HS2.out (by first | assumption | exact Bool.eq_false_iff.2 (by assumption))))).mono ?_; rintro e w3 ⟨rfl, hb3⟩; have HB3 := hide (HB2.out.trans (hb3.mono HB2.out.size)); clear hb3)
              | (go_at_call 27; refine (HG.out wr HB0.out).mono ?_; rintro e w2 ⟨b1, rfl, hs2, hb2⟩; have x2 := ((HX0.out.below hb2).cell 0 (v := .slice A lp c) rfl).1; have l2 := (HX0.out.below hb2).lt; have HB2 := hide (HB0.out.trans (hb2.mono HB0.out.size)); have HS2 := hide hs2; clear hb2 hs2))
            all_goals
              go_ret
              first
                | exact ⟨_, rfl, hide (fun _ => HPB.out), HB3.out⟩
                | exact ⟨_, rfl, hide (fun _ => HPB.out), HB2.out⟩
        · rcases hend with hlt | ⟨hlt, h9⟩
          all_goals
            go_wp2_with (first
              | (go_at_call 28; refine (HCK.out w2 HB2.out (HFEW.out (HS2.out (by first | assumption | exact Bool.eq_false_iff.2 (by assumption))))).mono ?_; rintro e w3 ⟨rfl, hb3⟩; have HB3 := hide (HB2.out.trans (hb3.mono HB2.out.size)); clear hb3)
              | (go_at_call 27; refine (HG.out wr HB0.out).mono ?_; rintro e w2 ⟨b1, rfl, hs2, hb2⟩; have x2 := ((HX0.out.below hb2).cell 0 (v := .slice A lp c) rfl).1; have l2 := (HX0.out.below hb2).lt; have HB2 := hide (HB0.out.trans (hb2.mono HB0.out.size)); have HS2 := hide hs2; clear hb2 hs2))
            all_goals
              go_ret
              first
                | exact ⟨true, rfl, hide (fun h => by cases h), HB3.out⟩
                | exact ⟨true, rfl, hide (fun h => by cases h), HB2.out⟩
end Go.Proofs.Ytlolgahaphmfoaa
