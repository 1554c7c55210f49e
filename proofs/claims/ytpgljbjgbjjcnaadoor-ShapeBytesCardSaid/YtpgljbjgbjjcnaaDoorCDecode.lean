/- The contract of Decode. Condition: the table of parts reads as listed. -/
import Derived.Test.YtpgljbjgbjjcnaaDoorCRProg
import Derived.RegionTactic
set_option linter.unusedSimpArgs false
set_option linter.unusedVariables false
namespace Go.Proofs.YtpgljbjgbjjcnaaDoor
open Go.RowKit

theorem DecA.no {W w' : World} {zs : List Int} {k : Nat} (h : decR zs = ([], k)) (hb : Below W.heap.size W w') : DecA W zs (.returned (.tuple #[.agg #[.slice none 0 0], .int .i64 (k : Int)])) w' :=
  ⟨.slice none 0 0, by rw [h], by rw [h]; exact Vec.nil _ _ _, hb⟩
theorem RS.see2 {w : World} {g B : Nat} {s : St} (h : RS w g B s) : ∃ A c, w.cell? ⟨g, 0, none⟩ = some (.slice A s.1.length c) ∧ w.cell? ⟨g, 1, none⟩ = some (.int .i64 (s.2 : Int)) ∧ w.frozen? ⟨g, 1, none⟩ = false := by
  obtain ⟨A, c, l0, l1, l2, l3, l4, hb, -⟩ := h
  exact ⟨A, c, (hb.cell 0 rfl).1, (hb.cell 1 rfl).1, (hb.cell 1 (v := .int .i64 (s.2 : Int)) rfl).2⟩

set_option maxHeartbeats 1000000 in
set_option maxRecDepth 100000 in
theorem decode_any (A : Option Addr) (n c : Nat) (zs : List Int) (w : World) (hr : Sl w w.heap.size .u8 A zs) (hn : zs.length = n) (hc : n ≤ c) (hmax : c ≤ 9223372036854775807) (hby : ∀ z ∈ zs, 0 ≤ z ∧ z ≤ 255) (hT : TabP w) :
    Calls Tryd.prog 20 #[.slice A n c] w (DecA w zs) := by
  have hLm := limits_any (w.alloc (.cells #[.slice none 0 0] 24))
  have hP := fun (w1 : World) (hb1 : Below (w.alloc (.cells #[.slice none 0 0] 24)).heap.size (w.alloc (.cells #[.slice none 0 0] 24)) w1) (l0 l1 l2 l3 l4 : Value) (hl : LimsC w1 (· < w1.heap.size) l0 l1 l2 l3 l4) =>
    rprog_any w1.heap.size w1.heap.size (zs, 0) (w1.alloc (.cells #[.slice A n c, .int .i64 0, l0, l1, l2, l3, l4] 72)) (by have := hb1.size; simp at this; omega)
      ((hT.below ((below1 w _).trans (hb1.mono (by simp))) hT.1).below (below1 w1 _) (by have := hb1.size; simp at this; omega))
      ⟨A, c, l0, l1, l2, l3, l4, by subst hn; exact Box.new w1 _ _, ((hr.below ((below1 w _).trans (hb1.mono (by simp)))).below ((below1 w1 _).mono (by have := hb1.size; simp at this; omega))).more (by have := hb1.size; simp at this; omega), by show zs.length ≤ c; omega, hmax, hl.keep (Same'.of_below (below1 w1 _)) (fun _ h => h), hby, Nat.le_refl _⟩
  have HLm := hide hLm
  have HPr := hide hP
  have hv : decR zs = if endE (progT (zs, 0)).2 = 0 then ((progT (zs, 0)).1, 0) else ([], endE (progT (zs, 0)).2) := rfl
  have HV := hide hv
  have HT := hide hT
  clear hLm hP hr hn hby hT hv
  generalize progT (zs, 0) = p at *
  obtain ⟨P, rest, E⟩ := p
  simp only [endE] at HV
  go_enter Tryd.func20, Tryd.ntmps20
  go_upto_region 3 with (first
    | (go_at_call 40; refine HLm.out.mono ?_; rintro e w1 ⟨l0, l1, l2, l3, l4, rfl, hl, hb1⟩; have hz1 := hb1.size; simp at hz1; have HB1 := hide hb1; have HL1 := hide hl; clear hl hb1)
    | (go_at_call 50; refine (HPr.out _ HB1.out _ _ _ _ _ HL1.out).mono ?_; rintro e w2 ⟨v2, rfl, hv2, hr2⟩; obtain ⟨A2, c2, rfl, -, -⟩ := hv2.open'; have hz2 := hr2.read.size; simp at hz2; obtain ⟨A5, c5, u0, u1, u2⟩ := hr2.rs.see2; have hg2 := hr2.rs.lt.2; have HV2 := hide hv2; have HR2 := hide hr2; clear hv2 hr2))
  have hbx := HR2.out.read.box (Box.alloc (Box.belowB (Box.new w #[.slice none 0 0] 24) HB1.out (by simp)) _) (by omega)
  have hbel : Below w.heap.size w w2 := ((below1 w _).trans (HB1.out.mono (by simp))).trans (((below1 w1 _).mono (by omega)).trans ((HR2.out.read.below (by simp)).mono (by omega)))
  obtain ⟨x0, x1⟩ := hbx.cell 0 (v := .slice none 0 0) rfl
  have xl := hbx.lt
  have HBX := hide hbx
  have HBEL := hide hbel
  clear hbx hbel
  by_cases hE : E = 0
  · subst hE
    have u1' : w2.cell? ⟨w1.heap.size, 1, none⟩ = some (.int .i64 0) := u1
    clear u1
    by_cases h0 : 0 < rest.length
    · have hv := hide (show decR zs = ([], 11) by rw [HV.out]; simp [h0])
      have h0' : (0 : Int) < (rest.length : Int) := by omega
      have HE1 := hide ((HBEL.out.setCell (p := ⟨w1.heap.size, 1, none⟩) (by show w.heap.size ≤ w1.heap.size; omega) (.int .i64 11)))
      generalize rest.length = rl at *
      clear HV HPr HLm HT
      go_wp2
      go_region
      all_goals
        go_wp2
        refine bodyPost_ret (v := .tuple #[.agg #[.slice none 0 0], .int .i64 11]) (by simp [results, Tryd.results20, go_sem, x0, xl]) rfl (DecA.no hv.out ?_)
        exact ((((HBEL.out.setCell (p := ⟨w1.heap.size, 1, none⟩) (by show w.heap.size ≤ w1.heap.size; omega) _).setCell (p := ⟨w.heap.size, 0, none⟩) (Nat.le_refl _) _).alloc (by simp only [World.size_setCell]; omega) _)).drew
    · have hv := hide (show decR zs = (P, 0) by rw [HV.out]; simp [h0])
      have h0' : ¬ (0 : Int) < (rest.length : Int) := by omega
      generalize rest.length = rl at *
      clear HV HPr HLm HT
      go_wp2
      refine bodyPost_ret (v := .tuple #[.agg #[.slice A2 P.length c2], .int .i64 0]) (by simp [results, Tryd.results20, go_sem, x0, xl]) rfl ⟨.slice A2 P.length c2, by rw [hv.out]; rfl, ?_, ?_⟩
      · rw [hv.out]
        have hk : Same' (fun b => w1.heap.size + 1 ≤ b ∧ b < w2.heap.size) w2 ((w2.setCell ⟨w.heap.size, 0, none⟩ (.slice A2 P.length c2)).alloc (.cells #[.slice A2 P.length c2] 24)) :=
          (same_set' (fun b hb => by omega)).trans (fun b o hb => World.cell?_alloc_lt _ _ _ (by show b < _; simp only [World.size_setCell]; exact hb.2))
        exact (FunsV.keep HV2.out (S' := fun b => w1.heap.size + 1 ≤ b ∧ b < w2.heap.size) (fun _ _ _ => rfl) (fun b hb => by unfold Made at hb; simpa using hb)).keep hk (fun b hb => by simp only [World.size_alloc, World.size_setCell]; omega)
      · exact (HBEL.out.setCell (p := ⟨w.heap.size, 0, none⟩) (Nat.le_refl _) _).alloc (by simp only [World.size_setCell]; omega) _
  · have hv := hide (show decR zs = ([], E) by rw [HV.out]; simp [hE])
    have hEb : ((E : Int) == 0) = false := by simp; omega
    have hEb2 : ((E : Int) != 0) = true := by simp; omega
    generalize rest.length = rl at *
    clear HV HPr HLm HT hE
    go_wp2
    go_region
    all_goals
      go_wp2
      refine bodyPost_ret (v := .tuple #[.agg #[.slice none 0 0], .int .i64 (E : Int)]) (by simp [results, Tryd.results20, go_sem, x0, xl]) rfl (DecA.no hv.out ?_)
      exact ((HBEL.out.setCell (p := ⟨w.heap.size, 0, none⟩) (Nat.le_refl _) _).alloc (by simp only [World.size_setCell]; omega) _).drew
end Go.Proofs.YtpgljbjgbjjcnaaDoor
