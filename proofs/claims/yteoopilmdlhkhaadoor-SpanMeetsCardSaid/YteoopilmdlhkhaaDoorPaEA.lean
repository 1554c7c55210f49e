/- Texts of several names, of which only what the statement needs is kept. -/
import Derived.Test.YteoopilmdlhkhaaDoorPaJO
/- Layer 11, the program: In, Out, Is. Condition: the table of parts reads as listed. -/
set_option linter.unusedSimpArgs false
set_option linter.unusedVariables false
namespace Go.Proofs.YteoopilmdlhkhaaDoor
open Go.RowKit

theorem sizeN_le {f : FunV} (hok : FlowOk f) (z : Int) : 0 ≤ sizeN f z ∧ sizeN f z ≤ 40 := by
  unfold sizeN
  split
  · rename_i h
    obtain ⟨l, hl⟩ : ∃ l, f.blocks[z.toNat]? = some l := ⟨_, List.getElem?_eq_getElem (by omega)⟩
    have := hok.2.1 l (List.mem_of_getElem? hl)
    unfold codeOf
    rw [hl]
    simp
    omega
  · omega
set_option maxHeartbeats 1000000 in
set_option maxRecDepth 100000 in
theorem out_anyL (vk vb vs : Value) (f : FunV) (b : Int) (w : World) (B : Nat) (hB : B ≤ w.heap.size) (hi : FunI w (· < B) vk vb vs f) (hT : TabP w) (hok : FlowOk f) (hne : ∀ c, c < f.blocks.length → codeOf f c ≠ []) (hfew : ∀ l ∈ f.blocks, ∀ x ∈ l, x.args.length ≤ 1099511627000) :
    Calls Tryd.prog 31 #[.agg #[vk, vb, .int .i64 f.params, .int .i64 f.result, vs], .int .i64 b] w fun e w' => ∃ r s, e = .returned r ∧ LvQ f 1 b (sizeN f b - 1) s ∧ SetV w' r s ∧ Below w.heap.size w w' := by
  have hnr := sizeN_le hok b
  have HBH := hide (fun (W : World) (hW : Below w.heap.size w W) => behind_any vk vb vs f b (sizeN f b - 1) W B (by have := hW.size; omega) (hi.keep (up hW hB) (fun _ h => h)) (hT.below hW hT.1) hok hne hfew)
  have HSZ := hide (fun (W : World) (hW : Below w.heap.size w W) => size_anyL vk vb vs f b W B (by have := hW.size; omega) (hi.keep (up hW hB) (fun _ h => h)))
  obtain ⟨n, hn⟩ : ∃ n, sizeN f b = n := ⟨_, rfl⟩
  rw [hn] at HBH HSZ hnr ⊢
  obtain ⟨Ak, ck, rfl, hck, hmk⟩ := hi.1.open'
  obtain ⟨Ab, cb, rfl, hcb, hmb⟩ := hi.2.1.open'
  obtain ⟨As, cs, rfl, hcs, hms⟩ := hi.2.2.1.open'
  obtain ⟨P, hP⟩ : ∃ P : List Nat → Prop, LvQ f 1 b (n - 1) = P := ⟨_, rfl⟩
  rw [hP] at HBH ⊢
  clear hi hT hok hne hfew hP hn
  have hjw : IntKind.i64.wrap (n - 1) = n - 1 := IntWalk.i64_in _ ⟨by omega, by omega⟩
  generalize f.kinds.length = lk, f.base.length = lb, f.blocks.length = ls, f.params = fp, f.result = fr at *
  go_enter Tryd.func31, Tryd.ntmps31
  go_upto_region 1 with (fail)
  obtain ⟨w1, hw1⟩ : ∃ w1, w1 = w.alloc (.cells #[.slice Ak lk ck, .slice Ab lb cb, .int .i64 fp, .int .i64 fr, .slice As ls cs] 34) := ⟨_, rfl⟩
  obtain ⟨h5, hh5⟩ : ∃ h5, w.heap.size = h5 := ⟨_, rfl⟩
  have HX0 := hide (show Box w1 (h5) #[.slice Ak lk ck, .slice Ab lb cb, .int .i64 fp, .int .i64 fr, .slice As ls cs] 34 by rw [hw1, ← hh5]; have t := Box.new w #[.slice Ak lk ck, .slice Ab lb cb, .int .i64 fp, .int .i64 fr, .slice As ls cs] 34; (try simp only [World.size_alloc] at t); exact t)
  have HB1 := hide (show Below w.heap.size w w1 by rw [hw1]; exact ((Below.refl _ _).alloc (Nat.le_refl _) _))
  have w1s := HB1.out.size
  have w1z := hide (show w1.heap.size = h5 + 1 by rw [hw1, ← hh5]; simp only [World.size_alloc])
  have HK0 := hide (fun (W : World) (hW : Below w1.heap.size w1 W) => (And.intro ((HX0.out.below hW).cell 0 (v := .slice Ak lk ck) rfl).1 (And.intro ((HX0.out.below hW).cell 1 (v := .slice Ab lb cb) rfl).1 (And.intro ((HX0.out.below hW).cell 2 (v := .int .i64 fp) rfl).1 (And.intro ((HX0.out.below hW).cell 3 (v := .int .i64 fr) rfl).1 ((HX0.out.below hW).cell 4 (v := .slice As ls cs) rfl).1)))))
  have lHX0 := HX0.out.lt
  have h5g : w.heap.size ≤ h5 := by omega
  rw [← hw1, hh5]
  clear hw1 hh5
  obtain ⟨c0, c1, c2, c3, c4⟩ := HK0.out w1 (Below.refl _ _)
  go_region_held3 (fun w' => w'.cell? ⟨h5, 0, none⟩ = some (.slice Ak lk ck) ∧ w'.cell? ⟨h5, 1, none⟩ = some (.slice Ab lb cb) ∧ w'.cell? ⟨h5, 2, none⟩ = some (.int .i64 fp) ∧ w'.cell? ⟨h5, 3, none⟩ = some (.int .i64 fr) ∧ w'.cell? ⟨h5, 4, none⟩ = some (.slice As ls cs)) (first | go_keep | (exact q2))
    (first
      | (go_at_call 52; refine (HBH.out w2 HB2.out).mono ?_; rintro e w3 ⟨r3, s3, rfl, hs3, hv3, hb3⟩; have hc3 := HC2.out.trans (hb3.mono HC2.out.size); have q2 := HK0.out w3 hc3; have HS3 := hide hs3; have HV3 := hide hv3; have HB3 := hide (HB1.out.trans (hc3.mono HB1.out.size)); clear hs3 hv3 hb3 hc3)
      | (go_at_call 53; refine (HSZ.out (w1.drewN 1) (below_drewN HB1.out 1)).mono ?_; rintro e w2 ⟨rfl, hb2⟩; have hc2 : Below w1.heap.size w1 w2 := ⟨hb2.os, hb2.tape, hb2.output, hb2.size, hb2.block⟩; have q2 := HK0.out w2 hc2; have HC2 := hide hc2; have HB2 := hide (HB1.out.trans (hc2.mono HB1.out.size)); clear hb2 hc2))
  go_wp2
  go_ret
  exact ⟨r3, s3, rfl, HS3.out, HV3.out, HB3.out⟩
end Go.Proofs.YteoopilmdlhkhaaDoor

/- Layer 12, the program: a set with its bases, a set's variables of a kind. No condition. -/
set_option linter.unusedSimpArgs false
set_option linter.unusedVariables false
namespace Go.Proofs.YteoopilmdlhkhaaDoor
open Go.RowKit

/-- A set's variables, and the bases of its derived ones, among the first ones. -/
def clsN (f : FunV) (s : List Nat) : Nat → List Int
  | 0 => []
  | k + 1 => clsN f s k ++ (if hasB s (k : Int) = true then (k : Int) :: (if f.kinds.getD k 0 = 2 ∧ k < f.base.length then [f.base.getD k 0] else []) else [])
def closeL (f : FunV) (s : List Nat) : List Nat := ofL (clsN f s f.kinds.length)
theorem clsN_len (f : FunV) (s : List Nat) (k : Nat) : (clsN f s k).length ≤ 2 * k := by
  induction k with
  | zero => simp [clsN]
  | succ k ih =>
    unfold clsN
    rw [List.length_append]
    repeat' split
    all_goals simp
    all_goals omega
theorem clsN_R {f : FunV} (h : ∀ z ∈ f.base, i64R z) (s : List Nat) {k : Nat} (hk : k ≤ 1000) : ∀ z ∈ clsN f s k, i64R z := by
  induction k with
  | zero => simp [clsN]
  | succ k ih =>
    intro z hz
    unfold clsN at hz
    rcases List.mem_append.1 hz with hz | hz
    · exact ih (by omega) z hz
    · split at hz
      · rcases List.mem_cons.1 hz with rfl | hz
        · unfold i64R; omega
        · split at hz
          · rename_i h2
            simp at hz
            subst hz
            exact h _ (by rw [List.getElem?_eq_getElem h2.2]; simp)
          · cases hz
      · cases hz
theorem hasV0 {w : World} {v : Value} {s : List Nat} (h : SetV w v s) (hl : s.length ≤ 1000) (hw : W64 s) (m : Nat) (hm : m ≤ 1000000) (b : Bool) (hb : hasB s (m : Int) = b) :
    Calls Tryd.prog 60 #[v, .int .i64 m] w fun e w' => e = .returned (.bool b) ∧ Below w.heap.size w w' := by
  subst hb
  exact (hasV h hl hw (m : Int) (by unfold i64R; omega)).mono fun e w' ⟨h1, q, h2⟩ => ⟨h1, by rw [h2]; exact below_drewN (Below.refl _ _) q⟩
theorem IntsV.all {w : World} {S : Nat → Prop} {v : Value} {xs : List Int} (h : IntsV w S v xs) : ∀ z ∈ xs, i64R z := fun z hz => by
  obtain ⟨A, c, e, -, -⟩ := h.open'
  subst e
  obtain ⟨k, hk⟩ := List.getElem?_of_mem hz
  obtain ⟨b, o, -, -, -, hr⟩ := h.get hk
  exact hr
end Go.Proofs.YteoopilmdlhkhaaDoor
