/- Layer 13, the program: turn: a branch of one's own leads elsewhere. No condition but on lengths. -/
import Derived.Test.YtnoknodijombpaaDoorPhDC
set_option linter.unusedSimpArgs false
set_option linter.unusedVariables false
namespace Go.Proofs.YtnoknodijombpaaDoor
open Go.RowKit

theorem bendB_eq {ls : List InsV} {n : Nat} {x : InsV} (hn : ls.length = n + 1) (hx : ls[n]? = some x) (t m : Int) : bendB ls t m = ls.set n (bendI x t m) := by
  unfold bendB
  rw [hn, Nat.add_sub_cancel, hx]
set_option maxHeartbeats 2000000 in
set_option maxRecDepth 100000 in
theorem eturn_any {base g n c a : Nat} {v : Value} {l : List (List InsV × Value)} {ls : List InsV} {x : InsV} (t m : Int) (w : World) (h : BlkM w base v l) (ha : l[a]? = some (ls, .slice (some ⟨g, 0, none⟩) (n + 1) c)) (hn : ls.length = n + 1) (hn2 : n ≤ 1000) (hx : ls[n]? = some x) (hm : i64R m) :
    Calls Tryd.prog 18 #[.agg #[.slice (some ⟨g, 0, none⟩) (n + 1) c], .int .i64 t, .int .i64 m] w fun e w' => e = .returned (.tuple #[]) ∧ BlkM w' base v (l.set a (bendB ls t m, .slice (some ⟨g, 0, none⟩) (n + 1) c)) ∧ But g w w' := by
  obtain ⟨q, h1, h2, h3⟩ := h.code _ (List.mem_of_getElem? ha)
  have hql : q.length = n + 1 := by
    have := congrArg List.length h1
    rw [List.length_map] at this
    simp only at this
    omega
  obtain ⟨⟨y, va⟩, hy⟩ : ∃ y, q[n]? = some y := ⟨_, List.getElem?_eq_getElem (by omega)⟩
  have hyx : y = x := by
    have h4 : (q.map (·.1))[n]? = some y := by rw [List.getElem?_map, hy]; rfl
    rw [h1] at h4
    simp only at h4
    rw [hx] at h4
    injection h4 with h4
    exact h4.symm
  subst hyx
  have hR : InsR y := (h3 _ (List.mem_of_getElem? hy)).2
  obtain ⟨d4, f4⟩ := h2.at' hql (fun _ => rfl) hy (i := 4) (by omega)
  obtain ⟨d5, f5⟩ := h2.at' hql (fun _ => rfl) hy (i := 5) (by omega)
  have hg := (h2.lt g rfl).2
  obtain ⟨w1, hw1⟩ : ∃ w1, w.alloc (.cells #[.slice (some ⟨g, 0, none⟩) (n + 1) c] 41) = w1 := ⟨_, rfl⟩
  have HB1 := hide (show Below w.heap.size w w1 by rw [← hw1]; exact alloc1 w _)
  have HM1 := hide (show BlkM w1 base v l from h.below HB1.out)
  have b4 : w1.cell? ⟨g, n * 7 + 4, none⟩ = some (.int .i64 y.n) := (HB1.out.cell (p := ⟨g, n * 7 + 4, none⟩) hg).trans d4
  have b5 : w1.cell? ⟨g, n * 7 + 5, none⟩ = some (.int .i64 y.m) := (HB1.out.cell (p := ⟨g, n * 7 + 5, none⟩) hg).trans d5
  have z4 := (HB1.out.frozen (p := ⟨g, n * 7 + 4, none⟩) hg).trans f4
  have z5 := (HB1.out.frozen (p := ⟨g, n * 7 + 5, none⟩) hg).trans f5
  have HP4 := hide (show y.n = t → BlkM (w1.setCell ⟨g, n * 7 + 4, none⟩ (.int .i64 m)) base v (l.set a (bendB ls t m, .slice (some ⟨g, 0, none⟩) (n + 1) c)) from fun e => by
    rw [bendB_eq hn hx, show bendI y t m = { y with n := m } by unfold bendI; rw [if_pos e]]
    exact HM1.out.put (x' := { y with n := m }) ha hn hx (fun _ => rfl) (by omega) hm ⟨⟨hR.1, hR.2.1, hR.2.2.1, hR.2.2.2.1, hm, hR.2.2.2.2.2⟩, rfl⟩)
  have HP5 := hide (show ¬ y.n = t → BlkM (w1.setCell ⟨g, n * 7 + 5, none⟩ (.int .i64 m)) base v (l.set a (bendB ls t m, .slice (some ⟨g, 0, none⟩) (n + 1) c)) from fun e => by
    rw [bendB_eq hn hx, show bendI y t m = { y with m := m } by unfold bendI; rw [if_neg e]]
    exact HM1.out.put (x' := { y with m := m }) ha hn hx (fun _ => rfl) (by omega) hm ⟨⟨hR.1, hR.2.1, hR.2.2.1, hR.2.2.2.1, hR.2.2.2.2.1, hm⟩, rfl⟩)
  have HBT := hide (fun (o : Nat) => (show But g w (w1.setCell ⟨g, o, none⟩ (.int .i64 m)) from ⟨HB1.out.os, HB1.out.tape, HB1.out.output, by rw [World.size_setCell]; exact HB1.out.size, fun k hk hne => (heap_setCell_other w1 ⟨g, o, none⟩ k _ hne).trans (HB1.out.block k hk)⟩))
  have hg1 : g < w1.heap.size := by have := HB1.out.size; omega
  obtain ⟨h0, hh0⟩ : ∃ h0, w.heap.size = h0 := ⟨_, rfl⟩
  have HBX := hide (show Box w1 h0 #[.slice (some ⟨g, 0, none⟩) (n + 1) c] 41 by rw [← hw1, ← hh0]; exact Box.new w _ _)
  have hw1' := hw1.symm
  have k0 : (0 : Int) ≤ (n : Int) := by omega
  have k1 : (n : Int) < ((n + 1 : Nat) : Int) := by omega
  have k2 : n < n + 1 := by omega
  have e1 : ((n + 1 : Nat) : Int) - 1 = (n : Int) := by omega
  obtain ⟨yn, hyn⟩ : ∃ yn, y.n = yn := ⟨_, rfl⟩
  rw [hyn] at b4 HP4 HP5
  clear h ha h1 h2 h3 hql hy hR d4 f4 d5 f5 hg hn hx hyn hw1'
  go_enter Tryd.func18, Tryd.ntmps18
  go_upto_region 1 with (fail)
  (try rw [hw1])
  (try rw [hh0])
  clear hw1 hh0
  have x0 := (HBX.out.cell 0 (v := .slice (some ⟨g, 0, none⟩) (n + 1) c) rfl).1
  have lx := HBX.out.lt
  by_cases hq : yn = t
  · have q1 : (yn == t) = true := by simpa using hq
    have HE := hide (HP4.out hq)
    clear hq
    go_wp2
    go_end0
    exact ⟨rfl, HE.out, HBT.out _⟩
  · have q1 : (yn == t) = false := by simpa using hq
    have HE := hide (HP5.out hq)
    clear hq
    go_wp2
    go_end0
    exact ⟨rfl, HE.out, HBT.out _⟩
end Go.Proofs.YtnoknodijombpaaDoor
