/- The contract of the fixed fact of layer 4's statements. Condition: the table of parts reads as listed. -/
import Derived.Test.YtpggjolbohffjaaDoorG2
set_option linter.unusedSimpArgs false
set_option linter.unusedVariables false
namespace Go.Proofs.YtpggjolbohffjaaDoor
open Go.RowKit

def P04 : FunV := ⟨[0], [-1], 0, 0, [[⟨1, 0, 0, 0, 5, 0, []⟩, ⟨23, 0, 0, 0, 0, 0, []⟩]]⟩
def Q0 : FunV := ⟨[0], [-1], 0, 0, [[⟨1, 0, 0, 0, 5, 0, []⟩, ⟨21, 0, 0, 0, 0, 0, []⟩]]⟩
theorem chk_p : chkN4 [P04] = 0 := by decide +kernel
theorem chk_q : chkN4 [Q0] = 5 := by decide +kernel
def T0 (z : Int) : FunV := ⟨[0], [-1], 0, 0, [[⟨1, 0, 0, 0, 5, 0, []⟩, ⟨z, 0, 0, 0, 0, 0, []⟩]]⟩
def tinyCs (z : Int) : Array Value := #[.int .i64 1, .int .i64 0, .int .i64 0, .int .i64 0, .int .i64 5, .int .i64 0, .slice none 0 0, .int .i64 z, .int .i64 0, .int .i64 0, .int .i64 0, .int .i64 0, .int .i64 0, .slice none 0 0]
/-- The fixed program in memory. -/
def TinyP (w : World) (h : Nat) (z : Int) : Prop :=
  Box w (h + 1) #[.int .i64 0] 3 ∧ Box w (h + 2) #[.int .i64 (-1)] 3 ∧ Box w (h + 3) (tinyCs z) 41 ∧ Box w (h + 4) #[.slice (some ⟨h + 3, 0, none⟩) 2 2] 52 ∧
    Box w (h + 5) #[.slice (some ⟨h + 1, 0, none⟩) 1 1, .slice (some ⟨h + 2, 0, none⟩) 1 1, .int .i64 0, .int .i64 0, .slice (some ⟨h + 4, 0, none⟩) 1 1] 38
theorem TinyP.below {w w' : World} {h : Nat} {z : Int} (t : TinyP w h z) (hb : Below w.heap.size w w') : TinyP w' h z :=
  ⟨t.1.below hb, t.2.1.below hb, t.2.2.1.below hb, t.2.2.2.1.below hb, t.2.2.2.2.below hb⟩
theorem vec_one {α : Type} {s : Nat} {P : Nat → Nat → α → Prop} {S : Nat → Prop} {b c : Nat} {x : α} (hS : S b) (hP : P b 0 x) (hc : 1 ≤ c) (hm : c ≤ 100) : Vec s P S (.slice (some ⟨b, 0, none⟩) 1 c) [x] := by
  refine ⟨some ⟨b, 0, none⟩, c, rfl, by simpa using hc, by omega, fun _ => ⟨b, 0, rfl, hS, fun j y hj => ?_⟩⟩
  have hj0 : j = 0 := by
    have := (List.getElem?_eq_some_iff.1 hj).1
    simp at this; exact this
  subst hj0
  simp at hj
  subst hj
  simpa using hP
theorem vec_two {α : Type} {s : Nat} {P : Nat → Nat → α → Prop} {S : Nat → Prop} {b c : Nat} {x y : α} (hS : S b) (hP : P b 0 x) (hQ : P b s y) (hc : 2 ≤ c) (hm : c ≤ 100) : Vec s P S (.slice (some ⟨b, 0, none⟩) 2 c) [x, y] := by
  refine ⟨some ⟨b, 0, none⟩, c, rfl, by simpa using hc, by omega, fun _ => ⟨b, 0, rfl, hS, fun j u hj => ?_⟩⟩
  have hj2 : j < 2 := by
    have := (List.getElem?_eq_some_iff.1 hj).1
    simpa using this
  rcases (show j = 0 ∨ j = 1 by omega) with rfl | rfl
  · simp at hj; subst hj; simpa using hP
  · simp at hj; subst hj; simpa using hQ
theorem TinyP.funs {w : World} {h : Nat} {z : Int} (t : TinyP w h z) (hz : i64R z) : FunsV w (· < w.heap.size) (.slice (some ⟨h + 5, 0, none⟩) 1 1) [T0 z] := by
  obtain ⟨t1, t2, t3, t4, t5⟩ := t
  have r0 : i64R 0 := by unfold i64R; omega
  refine vec_one t5.lt ⟨_, _, _, ⟨(t5.cell 0 (v := .slice (some ⟨h + 1, 0, none⟩) 1 1) rfl).1, (t5.cell 1 (v := .slice (some ⟨h + 2, 0, none⟩) 1 1) rfl).1, (t5.cell 2 (v := .int .i64 0) rfl).1, (t5.cell 3 (v := .int .i64 0) rfl).1, (t5.cell 4 (v := .slice (some ⟨h + 4, 0, none⟩) 1 1) rfl).1⟩, ?_, ?_, ?_, r0, r0⟩ (by omega) (by omega)
  · exact vec_one t1.lt ⟨(t1.cell 0 (v := .int .i64 0) rfl).1, r0⟩ (by omega) (by omega)
  · exact vec_one t2.lt ⟨(t2.cell 0 (v := .int .i64 (-1)) rfl).1, by unfold i64R; omega⟩ (by omega) (by omega)
  · refine vec_one t4.lt ⟨_, (t4.cell 0 (v := .slice (some ⟨h + 3, 0, none⟩) 2 2) rfl).1, ?_⟩ (by omega) (by omega)
    refine vec_two t3.lt ⟨.slice none 0 0, ⟨(t3.cell 0 (v := .int .i64 1) rfl).1, (t3.cell 1 (v := .int .i64 0) rfl).1, (t3.cell 2 (v := .int .i64 0) rfl).1, (t3.cell 3 (v := .int .i64 0) rfl).1, (t3.cell 4 (v := .int .i64 5) rfl).1, (t3.cell 5 (v := .int .i64 0) rfl).1, (t3.cell 6 (v := .slice none 0 0) rfl).1⟩, Vec.nil _ _ _, ?_⟩
      ⟨.slice none 0 0, ⟨(t3.cell 7 (v := .int .i64 z) rfl).1, (t3.cell 8 (v := .int .i64 0) rfl).1, (t3.cell 9 (v := .int .i64 0) rfl).1, (t3.cell 10 (v := .int .i64 0) rfl).1, (t3.cell 11 (v := .int .i64 0) rfl).1, (t3.cell 12 (v := .int .i64 0) rfl).1, (t3.cell 13 (v := .slice none 0 0) rfl).1⟩, Vec.nil _ _ _, ?_⟩ (by omega) (by omega)
    · unfold InsR i64R; simp
    · unfold i64R at hz; unfold InsR i64R; simp; omega
set_option maxRecDepth 100000 in
theorem tiny_any (w : World) : Calls Tryd.prog 36 #[] w fun e w' => ∃ h, e = .returned (.agg #[.slice (some ⟨h + 5, 0, none⟩) 1 1]) ∧ TinyP w' h 23 ∧ w.heap.size ≤ h ∧ Below w.heap.size w w' := by
  go_enter Tryd.func36, Tryd.ntmps36
  go_wp2
  refine bodyPost_ret (v := .agg #[.slice (some ⟨w.heap.size + 5, 0, none⟩) 1 1]) (by simp [results, Tryd.results36, go_sem]) rfl ⟨w.heap.size, rfl, ?_, Nat.le_refl _, ?_⟩
  · refine ⟨?_, ?_, ?_, ?_, ?_⟩
    · have h := (((((Box.new (w.alloc (.cells #[.slice (some ⟨w.heap.size + 1 + 1 + 1 + 1 + 1, 0, none⟩) 1 1] 26)) #[.int .i64 0] 3).alloc (.cells #[.int .i64 (-1)] 3)).alloc (.cells (tinyCs 23) 41)).alloc (.cells #[.slice (some ⟨w.heap.size + 1 + 1 + 1, 0, none⟩) 2 2] 52)).alloc (.cells #[.slice (some ⟨w.heap.size + 1, 0, none⟩) 1 1, .slice (some ⟨w.heap.size + 1 + 1, 0, none⟩) 1 1, .int .i64 0, .int .i64 0, .slice (some ⟨w.heap.size + 1 + 1 + 1 + 1, 0, none⟩) 1 1] 38))
      rw [World.size_alloc] at h
      exact h
    · have h := ((((Box.new ((w.alloc (.cells #[.slice (some ⟨w.heap.size + 1 + 1 + 1 + 1 + 1, 0, none⟩) 1 1] 26)).alloc (.cells #[.int .i64 0] 3)) #[.int .i64 (-1)] 3).alloc (.cells (tinyCs 23) 41)).alloc (.cells #[.slice (some ⟨w.heap.size + 1 + 1 + 1, 0, none⟩) 2 2] 52)).alloc (.cells #[.slice (some ⟨w.heap.size + 1, 0, none⟩) 1 1, .slice (some ⟨w.heap.size + 1 + 1, 0, none⟩) 1 1, .int .i64 0, .int .i64 0, .slice (some ⟨w.heap.size + 1 + 1 + 1 + 1, 0, none⟩) 1 1] 38))
      rw [World.size_alloc, World.size_alloc] at h
      exact h
    · have h := (((Box.new (((w.alloc (.cells #[.slice (some ⟨w.heap.size + 1 + 1 + 1 + 1 + 1, 0, none⟩) 1 1] 26)).alloc (.cells #[.int .i64 0] 3)).alloc (.cells #[.int .i64 (-1)] 3)) (tinyCs 23) 41).alloc (.cells #[.slice (some ⟨w.heap.size + 1 + 1 + 1, 0, none⟩) 2 2] 52)).alloc (.cells #[.slice (some ⟨w.heap.size + 1, 0, none⟩) 1 1, .slice (some ⟨w.heap.size + 1 + 1, 0, none⟩) 1 1, .int .i64 0, .int .i64 0, .slice (some ⟨w.heap.size + 1 + 1 + 1 + 1, 0, none⟩) 1 1] 38))
      rw [World.size_alloc, World.size_alloc, World.size_alloc] at h
      exact h
    · have h := ((Box.new ((((w.alloc (.cells #[.slice (some ⟨w.heap.size + 1 + 1 + 1 + 1 + 1, 0, none⟩) 1 1] 26)).alloc (.cells #[.int .i64 0] 3)).alloc (.cells #[.int .i64 (-1)] 3)).alloc (.cells (tinyCs 23) 41)) #[.slice (some ⟨w.heap.size + 1 + 1 + 1, 0, none⟩) 2 2] 52).alloc (.cells #[.slice (some ⟨w.heap.size + 1, 0, none⟩) 1 1, .slice (some ⟨w.heap.size + 1 + 1, 0, none⟩) 1 1, .int .i64 0, .int .i64 0, .slice (some ⟨w.heap.size + 1 + 1 + 1 + 1, 0, none⟩) 1 1] 38))
      rw [World.size_alloc, World.size_alloc, World.size_alloc, World.size_alloc] at h
      exact h
    · have h := (Box.new (((((w.alloc (.cells #[.slice (some ⟨w.heap.size + 1 + 1 + 1 + 1 + 1, 0, none⟩) 1 1] 26)).alloc (.cells #[.int .i64 0] 3)).alloc (.cells #[.int .i64 (-1)] 3)).alloc (.cells (tinyCs 23) 41)).alloc (.cells #[.slice (some ⟨w.heap.size + 1 + 1 + 1, 0, none⟩) 2 2] 52)) #[.slice (some ⟨w.heap.size + 1, 0, none⟩) 1 1, .slice (some ⟨w.heap.size + 1 + 1, 0, none⟩) 1 1, .int .i64 0, .int .i64 0, .slice (some ⟨w.heap.size + 1 + 1 + 1 + 1, 0, none⟩) 1 1] 38)
      rw [World.size_alloc, World.size_alloc, World.size_alloc, World.size_alloc, World.size_alloc] at h
      exact h
  · exact (((((alloc1 w _).alloc (by simp) _).alloc (by simp; omega) _).alloc (by simp; omega) _).alloc (by simp; omega) _).alloc (by simp; omega) _
set_option maxHeartbeats 1000000 in
set_option maxRecDepth 100000 in
theorem alive4_any (w : World) (hT : TabP w) : Calls Tryd.prog 12 #[] w fun e w' => e = .returned (.bool true) ∧ Below w.heap.size w w' := by
  have hC := fun (W : World) (hW : Below w.heap.size w W) (h : Nat) (z : Int) (hz : i64R z) (hf : progFew [T0 z]) (t : TinyP W h z) => check_any _ [T0 z] W W.heap.size (Nat.le_refl _) (hT.below hW hT.1) (t.funs hz) hf
  have few : ∀ z, progFew [T0 z] := fun z f hf b hb x hx => by
    simp at hf; subst hf
    simp [T0] at hb; subst hb
    simp at hx
    rcases hx with rfl | rfl <;> simp
  have hCp := fun (W : World) (hW : Below w.heap.size w W) (h : Nat) (t : TinyP W h 23) => hC W hW h 23 (by unfold i64R; omega) (few 23) t
  have hCq := fun (W : World) (hW : Below w.heap.size w W) (h : Nat) (t : TinyP W h 21) => hC W hW h 21 (by unfold i64R; omega) (few 21) t
  have hnl : nextL ⟨22, 0, 0, 0, 3, 1, []⟩ = [1, 3] := by decide
  have hN : ∀ W : World, Calls Tryd.prog 27 #[.agg #[.int .i64 22, .int .i64 0, .int .i64 0, .int .i64 0, .int .i64 3, .int .i64 1, .slice none 0 0]] W fun e w' => ∃ b o c', e = .returned (.slice (some ⟨b, o, none⟩) 2 c') ∧ b < w'.heap.size ∧ w'.cell? ⟨b, o, none⟩ = some (.int .i64 1) ∧ Below W.heap.size W w' := fun W => (next_any ⟨22, 0, 0, 0, 3, 1, []⟩ none 0 0 W).mono fun e w' ⟨A', c', h1, h2, h3, h4, h5⟩ => by
    rw [hnl] at h1 h2
    obtain ⟨b, o, rfl, hb, hc⟩ := h2 (by simp)
    exact ⟨b, o, c', h1, hb, hc 0 (by simp), h5⟩
  rw [show chkN4 [T0 23] = 0 from chk_p] at hCp
  rw [show chkN4 [T0 21] = 5 from chk_q] at hCq
  have HCp := hide hCp; have HCq := hide hCq; have HN := hide hN
  have HL := hide (fun W => last_any 23 W)
  clear hC few hCp hCq hN hnl hT
  go_enter Tryd.func12, Tryd.ntmps12
  go_upto_region 3 with (first
    | (have q := HT1.out; go_at_call 36; refine (tiny_any _).mono ?_; rintro e w2 ⟨h2, rfl, ht2, hh2, hb2⟩; have HT2 := hide ht2; have HB2 := hide hb2; clear ht2 hb2 q)
    | (go_at_call 36; refine (tiny_any w).mono ?_; rintro e w1 ⟨h1, rfl, ht1, hh1, hb1⟩; have HT1 := hide ht1; have HB1 := hide hb1; clear ht1 hb1))
  obtain ⟨wb, hwb⟩ : ∃ wb, wb = w1.alloc (.cells #[.slice (some ⟨h1 + 5, 0, none⟩) 1 1] 26) := ⟨_, rfl⟩
  have hBb : Below wb.heap.size wb w2 := by rw [hwb]; exact HB2.out
  have hb0 : Below w.heap.size w wb := by rw [hwb]; exact HB1.out.alloc HB1.out.size _
  have hx1 : Box wb w1.heap.size #[.slice (some ⟨h1 + 5, 0, none⟩) 1 1] 26 := by rw [hwb]; exact Box.new w1 _ _
  have ht1 : TinyP wb h1 23 := by rw [hwb]; exact HT1.out.below (alloc1 w1 _)
  have hwbs : w1.heap.size < wb.heap.size := hx1.lt
  have hh2 : wb.heap.size ≤ h2 := by rw [hwb]; exact hh2
  clear hwb HB2
  obtain ⟨w3, hw3⟩ : ∃ w3, w3 = w2.alloc (.cells #[.slice (some ⟨h2 + 5, 0, none⟩) 1 1] 26) := ⟨_, rfl⟩
  have hx2 : Box w3 w2.heap.size #[.slice (some ⟨h2 + 5, 0, none⟩) 1 1] 26 := by rw [hw3]; exact Box.new w2 _ _
  have hb3 : Below wb.heap.size wb w3 := by rw [hw3]; exact hBb.alloc hBb.size _
  have ht2 : TinyP w3 h2 23 := by rw [hw3]; exact HT2.out.below (alloc1 w2 _)
  have ht1' : TinyP w3 h1 23 := ht1.below hb3
  have hx1' := hx1.below hb3
  have hws : w1.heap.size < w2.heap.size := by have := hBb.size; omega
  have hh1 : h1 + 5 < wb.heap.size := ht1.2.2.2.2.lt
  have hh5 : h2 + 5 < w2.heap.size := HT2.out.2.2.2.2.lt
  rw [← hw3]
  clear hw3 hBb
  obtain ⟨a1, a2, a3, a4, a5⟩ := ht2
  have q0 := (hx2.cell 0 (v := .slice (some ⟨h2 + 5, 0, none⟩) 1 1) rfl).1
  have q1 := (a5.cell 4 (v := .slice (some ⟨h2 + 4, 0, none⟩) 1 1) rfl).1
  have q2 := (a4.cell 0 (v := .slice (some ⟨h2 + 3, 0, none⟩) 2 2) rfl).1
  obtain ⟨c7, f7⟩ := a3.cell 7 (v := .int .i64 23) rfl
  obtain ⟨c8, f8⟩ := a3.cell 8 (v := .int .i64 0) rfl
  obtain ⟨c9, f9⟩ := a3.cell 9 (v := .int .i64 0) rfl
  obtain ⟨c10, f10⟩ := a3.cell 10 (v := .int .i64 0) rfl
  obtain ⟨c11, f11⟩ := a3.cell 11 (v := .int .i64 0) rfl
  obtain ⟨c12, f12⟩ := a3.cell 12 (v := .int .i64 0) rfl
  obtain ⟨c13, f13⟩ := a3.cell 13 (v := .slice none 0 0) rfl
  have l5 := a5.lt; have l4 := a4.lt; have l3 := a3.lt; have lq := hx2.lt
  have HA := hide (And.intro a1 (And.intro a2 (And.intro a3 (And.intro a4 a5))))
  have HX := hide (And.intro hx1' (And.intro hx2 ht1'))
  have HB := hide (hb0.trans (hb3.mono hb0.size))
  clear a1 a2 a3 a4 a5 hx1' hx2 ht1' hb0 hb3 hx1 ht1
  go_upto_region 4 with (fail)
  obtain ⟨w4, hw4⟩ : ∃ w4, w4 = (((((((w3.setCell ⟨h2 + 3, 7, none⟩ (.int .i64 21)).setCell ⟨h2 + 3, 8, none⟩ (.int .i64 0)).setCell ⟨h2 + 3, 9, none⟩ (.int .i64 0)).setCell ⟨h2 + 3, 10, none⟩ (.int .i64 0)).setCell ⟨h2 + 3, 11, none⟩ (.int .i64 0)).setCell ⟨h2 + 3, 12, none⟩ (.int .i64 0)).setCell ⟨h2 + 3, 13, none⟩ (.slice none 0 0)) := ⟨_, rfl⟩
  have keep : ∀ {g : Nat} {cs : Array Value} {T : TypeId}, Box w3 g cs T → g ≠ h2 + 3 → Box w4 g cs T := fun b hg => by
    rw [hw4]
    exact ((((((b.other hg).other hg).other hg).other hg).other hg).other hg).other hg
  obtain ⟨a1, a2, a3, a4, a5⟩ := HA.out
  obtain ⟨hx1, hx2, ⟨b1, b2, b3, b4, b5⟩⟩ := HX.out
  have a3' : Box w4 (h2 + 3) (tinyCs 21) 41 := by
    rw [hw4]
    exact ((((((a3.set 7 (.int .i64 21)).set 8 (.int .i64 0)).set 9 (.int .i64 0)).set 10 (.int .i64 0)).set 11 (.int .i64 0)).set 12 (.int .i64 0)).set 13 (.slice none 0 0)
  have ht2 : TinyP w4 h2 21 := ⟨keep a1 (by omega), keep a2 (by omega), a3', keep a4 (by omega), keep a5 (by omega)⟩
  have ht1 : TinyP w4 h1 23 := ⟨keep b1 (by omega), keep b2 (by omega), keep b3 (by omega), keep b4 (by omega), keep b5 (by omega)⟩
  have hy1 := keep hx1 (by omega)
  have hy2 := keep hx2 (by omega)
  have hs34 : w3.heap.size ≤ w4.heap.size := by rw [hw4]; simp
  have hb4 : Below w.heap.size w w4 := by
    rw [hw4]
    have hlo : w.heap.size ≤ h2 + 3 := by have := HB1.out.size; omega
    exact ((((((HB.out.setCell (p := ⟨h2 + 3, 7, none⟩) hlo _).setCell (p := ⟨h2 + 3, 8, none⟩) hlo _).setCell (p := ⟨h2 + 3, 9, none⟩) hlo _).setCell (p := ⟨h2 + 3, 10, none⟩) hlo _).setCell (p := ⟨h2 + 3, 11, none⟩) hlo _).setCell (p := ⟨h2 + 3, 12, none⟩) hlo _).setCell (p := ⟨h2 + 3, 13, none⟩) hlo _
  rw [← hw4]
  clear hw4 keep a1 a2 a3 a4 a5 b1 b2 b3 b4 b5 hx1 hx2 a3' q0 q1 q2 c7 c8 c9 c10 c11 c12 c13 f7 f8 f9 f10 f11 f12 f13 l5 l4 l3 lq HA HX
  have HT2 := hide ht2; have HT1 := hide ht1; have HY1 := hide hy1; have HY2 := hide hy2; have HB4 := hide hb4
  clear ht2 ht1 hy1 hy2 hb4
  go_wp2_with (first
    | (go_at_call 22; refine (HL.out _).mono ?_; rintro e w' ⟨rfl, rfl⟩)
    | (have q := HB6.out; go_at_call 16; refine (HCq.out w6 HB6.out h2 HTT6.out).mono ?_; rintro e w7 ⟨rfl, hb7⟩; have hc7 := (hb7.cell (p := ⟨b, o, none⟩) hbl6).trans hcl6; have hbl7 : b < w7.heap.size := (by have := hb7.size; omega); have HB7 := hide (HB6.out.trans (hb7.mono HB6.out.size)); clear hb7 q hcl6)
    | (have q := HB5.out; go_at_call 16; refine (HCp.out w5 HB5.out h1 HTO5.out).mono ?_; rintro e w6 ⟨rfl, hb6⟩; have hcl6 := (hb6.cell (p := ⟨b, o, none⟩) hbl5).trans hcl5; have hbl6 : b < w6.heap.size := (by have := hb6.size; omega); have y2 := ((HY25.out.below hb6).cell 0 (v := .slice (some ⟨h2 + 5, 0, none⟩) 1 1) rfl).1; have ly2 := (HY25.out.below hb6).lt; have HTT6 := hide (HTT5.out.below hb6); have HB6 := hide (HB5.out.trans (hb6.mono HB5.out.size)); clear hb6 q hcl5)
    | (go_at_call 27; refine (HN.out w4).mono ?_; rintro e w5 ⟨b, o, c', rfl, hbl5, hcl5, hb5⟩; have hy15 := HY1.out.below hb5; have y1 := (hy15.cell 0 (v := .slice (some ⟨h1 + 5, 0, none⟩) 1 1) rfl).1; have ly1 := hy15.lt; have HY25 := hide (HY2.out.below hb5); have HTO5 := hide (HT1.out.below hb5); have HTT5 := hide (HT2.out.below hb5); have HB5 := hide (HB4.out.trans (hb5.mono HB4.out.size)); clear hb5 hy15))
  go_ret
  exact ⟨by simp [lastB], HB7.out⟩
end Go.Proofs.YtpggjolbohffjaaDoor
