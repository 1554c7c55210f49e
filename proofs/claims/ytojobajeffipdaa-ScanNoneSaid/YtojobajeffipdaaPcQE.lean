/- Layer 16: one span gets its location. Condition: no more than 48 spans. -/
import Derived.Test.YtojobajeffipdaaPcQD
set_option linter.unusedSimpArgs false
set_option linter.unusedVariables false
namespace Go.Proofs.Ytojobajeffipdaa
open Go.RowKit

theorem LcOk.set {ls : List LcV} (h : LcOk ls) (j : Nat) {x : LcV} (hx : i64R x.k ∧ i64R x.n) : LcOk (ls.set j x) := fun y hy => by
  rcases List.mem_or_eq_of_mem_set hy with h1 | h1
  · exact h y h1
  · subst h1; exact hx
theorem LcOk.at' {ls : List LcV} (h : LcOk ls) (j : Nat) : i64R (lcAt ls j).k ∧ i64R (lcAt ls j).n := by
  by_cases hj : j < ls.length
  · exact h _ (List.mem_of_getElem? (lcAt_some hj))
  · rw [lcAt_out (by omega)]
    exact ⟨⟨by simp, by simp⟩, by simp, by simp⟩
set_option maxHeartbeats 2000000 in
set_option maxRecDepth 100000 in
theorem qput_any (gl cl n cs i B : Nat) (regs : Int) (As : Option Addr) (ls : List LcV) (ss : List SpV) (w : World)
    (hl : Box w gl (lcsA ls) 37) (hok : LcOk ls) (hs : SpsV w (· < B) (.slice As n cs) ss) (hln : ls.length = n) (hsn : ss.length = n) (hin : i < n) (hn : n ≤ 48) (hcl : n ≤ cl) (hcm : cl ≤ 1000000) (hB : B ≤ gl) :
    Calls Try.prog 19 #[.agg #[.slice As n cs, .slice (some ⟨gl, 0, none⟩) n cl], .int .i64 (i : Int), .int .i64 regs] w fun e w' => e = .returned (.tuple #[]) ∧ Box w' gl (lcsA (stepL ss regs i ls)) 37 ∧ Below B w w' ∧ But16 gl w w' := by
  have hgl := hl.lt
  obtain ⟨y, hy⟩ : ∃ y, ss[i]? = some y := ⟨_, List.getElem?_eq_getElem (by omega)⟩
  obtain ⟨bs, os, rfl, hbs, -⟩ := hs.get hy
  obtain ⟨xi, hxi⟩ : ∃ y, ls[i]? = some y := ⟨_, List.getElem?_eq_getElem (by omega)⟩
  have HTS := hide (fun (W : World) (hW : Below w.heap.size w W) => qtoslot_any gl cl n cs i B (some ⟨bs, os, none⟩) ls ss W (hl.below hW) hok (hs.upB (hW.mono (by omega))) hln hsn hin hn hcl hcm hB)
  have HLE := hide (fun (W : World) (hW : Below w.heap.size w W) => qleast_any gl 0 cl n cs i 1 (some ⟨bs, os, none⟩) ls ss W (lcs_of_box (hl.below hW) hok hln hcl hcm) ((hs.wide (by omega)).up hW) hln hsn hin hn)
  have HLA := hide (fun (W : World) (hW : Below w.heap.size w W) => qlast_any gl 0 cl n cs i (some ⟨bs, os, none⟩) ls ss W (lcs_of_box (hl.below hW) hok hln hcl hcm) ((hs.wide (by omega)).up hW) hln hsn hin hn hcl hcm)
  have hmi := last_lt ls ss i
  have HST := hide (show stepL ss regs i ls = if (spAt ss i).c = true then putL ls ss i else if ((leastN ls ss 1 (spAt ss i) : Nat) : Int) < regs then ls.set i ⟨1, ((leastN ls ss 1 (spAt ss i) : Nat) : Int)⟩ else putL (ls.set i (lcAt ls (lastF ls ss i i))) ss (lastF ls ss i i) from rfl)
  rw [spAt_of hy] at HST HLE
  obtain ⟨m, hm⟩ := letl (lastF ls ss i i)
  rw [hm] at HLA HST hmi
  obtain ⟨z, hz⟩ := letl (leastN ls ss 1 y)
  rw [hz] at HLE HST
  have HTE := hide (fun (W : World) (hb : Box W gl (lcsA (ls.set i (lcAt ls m))) 37) (hW : Below B w W) => qtoslot_any gl cl n cs m B (some ⟨bs, os, none⟩) (ls.set i (lcAt ls m)) ss W hb (hok.set i (hok.at' m)) (hs.upB hW) (by rw [List.length_set]; exact hln) hsn (by omega) hn hcl hcm hB)
  have HLB := hide (fun (W : World) (hW : Below w.heap.size w W) => hl.below hW)
  have HFI := hide (fun (W : World) (hW : Below w.heap.size w W) => (hl.below hW).lc hxi)
  have HFM := hide (fun (W : World) (hW : Below w.heap.size w W) => (hl.below hW).lc (lcAt_some (ls := ls) (i := m) (by omega)))
  have HSC := hide (fun (W : World) (hW : Below w.heap.size w W) => ((hs.wide (by omega)).at' hW hy).2.2.2.1)
  have hbw : bs < w.heap.size := by have h : bs < B := hbs; omega
  obtain ⟨xk, hxk⟩ := letl (lcAt ls m)
  rw [hxk] at HTE HFM HST
  obtain ⟨mk, mn⟩ := xk
  obtain ⟨yv, yf, yt, yc⟩ := y
  clear hz hm hxk hl hok hs hln hsn hy hxi hbs
  go_enter Try.func19, Try.ntmps19
  go_upto_region 1 with (fail)
  obtain ⟨w1, hw1⟩ := letr (w.alloc (.cells #[.slice (some ⟨bs, os, none⟩) n cs, .slice (some ⟨gl, 0, none⟩) n cl] 41))
  obtain ⟨h0, hh0⟩ := letl w.heap.size
  have HX0 := lBox hw1 hh0
  have HB1 := lBel hw1
  have HH0 := hide (show gl < h0 by omega)
  rw [← hw1, hh0]
  clear hw1 hh0
  have HKW := hide (fun (W : World) (hW : Below w1.heap.size w1 W) => And.intro ((HX0.out.below hW).cell 0 (v := .slice (some ⟨bs, os, none⟩) n cs) rfl).1 (And.intro ((HX0.out.below hW).cell 1 (v := .slice (some ⟨gl, 0, none⟩) n cl) rfl).1 (HX0.out.below hW).lt))
  obtain ⟨x0, x1, l0⟩ := HKW.out w1 (Below.refl _ _)
  have s3 := HSC.out w1 HB1.out
  have lbs : bs < w1.heap.size := Nat.lt_of_lt_of_le hbw HB1.out.size
  have hii : (i : Int) < n := by omega
  cases yc
  rotate_left
  · go_wp2_with (go_at_call 29; (with_reducible refine (HTS.out w1 HB1.out).mono ?_); rintro e w2 ⟨rfl, hx2, hb2, hu2⟩)
    refine bodyPost_ret (results_none rfl _ _ _) rfl ?_
    exact ⟨rfl, by rw [HST.out]; exact hx2, (HB1.out.mono (by omega)).trans hb2, (But16.below HB1.out).trans hu2⟩
  go_upto_region 4 with (go_at_call 30; (with_reducible refine (HLE.out w1 HB1.out).mono ?_); rintro e w2 ⟨rfl, hb2⟩; have HB2 := hide hb2; clear hb2 x0 x1 l0 s3 lbs)
  have HC2 := hide (HB1.out.trans (HB2.out.mono HB1.out.size))
  obtain ⟨x0, x1, l0⟩ := HKW.out w2 HB2.out
  by_cases hr : (z : Int) < regs
  · obtain ⟨⟨c0, f0⟩, c1, f1⟩ := HFI.out w2 HC2.out
    have lg : gl < w2.heap.size := Nat.lt_of_lt_of_le hgl HC2.out.size
    have hd : decide ((z : Int) < regs) = true := by simp [hr]
    have HE := hide (show stepL ss regs i ls = ls.set i ⟨1, (z : Int)⟩ by rw [HST.out, if_neg (by simp), if_pos hr])
    have HBX := hide ((HLB.out w2 HC2.out).lcSet i 1 (z : Int))
    go_wp2
    refine bodyPost_ret (results_none rfl _ _ _) rfl ?_
    exact ⟨rfl, by rw [HE.out]; exact HBX.out, ((HC2.out.mono (by omega)).setCell (p := ⟨gl, i * 2, none⟩) hB _).setCell (p := ⟨gl, i * 2 + 1, none⟩) hB _, ((But16.below HC2.out).setC _).setC _⟩
  have hd : decide ((z : Int) < regs) = false := by simp [hr]
  have HE := hide (show stepL ss regs i ls = putL (ls.set i ⟨mk, mn⟩) ss m by rw [HST.out, if_neg (by simp), if_neg hr])
  clear HST
  go_upto_region 7 with (go_at_call 31; (with_reducible refine (HLA.out w2 HC2.out).mono ?_); rintro e w3 ⟨rfl, hb3⟩; have HB3 := hide (HB2.out.trans (hb3.mono HB2.out.size)); clear hb3 x0 x1 l0)
  have HC3 := hide (HB1.out.trans (HB3.out.mono HB1.out.size))
  have hmn : (m : Int) < n := by omega
  have HKR := hide (fun (W : World) (hW : Below w3.heap.size w3 W) => And.intro (HKW.out W (HB3.out.trans (hW.mono HB3.out.size))) (HFM.out W (HC3.out.trans (hW.mono HC3.out.size))))
  have HKS := hide (fun (W : World) (hW : Below w3.heap.size w3 W) => (show W.cell? ⟨h0, 1, none⟩ = some (.slice (some ⟨gl, 0, none⟩) n cl) ∧ W.cell? ⟨gl, m * 2, none⟩ = some (.int .i64 mk) ∧ W.cell? ⟨gl, m * 2 + 1, none⟩ = some (.int .i64 mn) from by obtain ⟨⟨k0, k1, -⟩, ⟨m0, -⟩, m1, -⟩ := HKR.out W hW; exact ⟨k1, m0, m1⟩))
  have BE0 := hide (show Below w3.heap.size w3 w3.drew from below_drewN (Below.refl _ _) 1)
  refine wp_region_til (fun w' => w'.cell? ⟨h0, 1, none⟩ = some (.slice (some ⟨gl, 0, none⟩) n cl) ∧ w'.cell? ⟨gl, m * 2, none⟩ = some (.int .i64 mk) ∧ w'.cell? ⟨gl, m * 2 + 1, none⟩ = some (.int .i64 mn)) 9 (by kernel_rfl) (HKS.out _ BE0.out) ?_
  obtain ⟨w100, hw100⟩ : ∃ w100, w100 = w3.drew := ⟨_, rfl⟩
  have BE100 := hide (show Below w3.heap.size w3 w100 by rw [hw100]; exact BE0.out)
  rw [← hw100]
  have hSd := HKS.out w100 BE100.out
  clear hw100
  refine tilM 0 (Or.inr hSd) ?_
  refine tilM 2 (Or.inr hSd) ?_
  refine tilM 3 (Or.inr hSd) ?_
  refine tilM 5 (Or.inr hSd) ?_
  refine tilT 1 hSd ?_
  refine tilT 4 hSd ?_
  refine tilM 6 (Or.inr hSd) ?_
  refine tilT 7 hSd ?_
  refine tilM 8 (Or.inr hSd) ?_
  refine wpTil_ready (rs := [9]) (by kernel_rfl) (by simp) ?_
  refine AllTil.last rfl (by rfl) (fun K hK => ?_)
  obtain ⟨⟨c0, f0⟩, c1, f1⟩ := HFI.out w100 (HC3.out.trans (BE100.out.mono HC3.out.size))
  have lg : gl < w100.heap.size := Nat.lt_of_lt_of_le hgl (HC3.out.trans (BE100.out.mono HC3.out.size)).size
  rw [if_pos (by rfl)]
  go_simp
  obtain ⟨w101, hw101⟩ := letr ((w100.setCell ⟨gl, i * 2, none⟩ (.int .i64 mk)).setCell ⟨gl, i * 2 + 1, none⟩ (.int .i64 mn))
  have HBX := hide (show Box w101 gl (lcsA (ls.set i ⟨mk, mn⟩)) 37 by rw [hw101]; exact (HLB.out w100 (HC3.out.trans (BE100.out.mono HC3.out.size))).lcSet i mk mn)
  have HBE := hide (show Below B w w101 by rw [hw101]; exact (((HC3.out.trans (BE100.out.mono HC3.out.size)).mono (by omega)).setCell (p := ⟨gl, i * 2, none⟩) hB _).setCell (p := ⟨gl, i * 2 + 1, none⟩) hB _)
  have HBU := hide (show But16 gl w w101 by rw [hw101]; exact ((But16.below (HC3.out.trans (BE100.out.mono HC3.out.size))).setC _).setC _)
  have HXU := hide (show Box w101 h0 #[.slice (some ⟨bs, os, none⟩) n cs, .slice (some ⟨gl, 0, none⟩) n cl] 41 by rw [hw101]; exact (((HX0.out.below HB3.out).below BE100.out).other (by have := HH0.out; omega)).other (by have := HH0.out; omega))
  rw [← hw101]
  clear hw101 c0 f0 c1 f1 lg
  refine hK.out _ _ ?_
  clear hK K hSd
  try simp only [tilS, Act.put]
  refine wpTil_done (by kernel_rfl) ?_ _
  have y0 := (HXU.out.cell 0 (v := .slice (some ⟨bs, os, none⟩) n cs) rfl).1
  have y1 := (HXU.out.cell 1 (v := .slice (some ⟨gl, 0, none⟩) n cl) rfl).1
  have ly := HXU.out.lt
  go_wp2_with (go_at_call 29; (with_reducible refine (HTE.out w101 HBX.out HBE.out).mono ?_); rintro e w9 ⟨rfl, hx9, hb9, hu9⟩)
  go_end0
  exact ⟨rfl, by rw [HE.out]; exact hx9, HBE.out.trans hb9, HBU.out.trans hu9⟩
end Go.Proofs.Ytojobajeffipdaa
