/- Layer 8: own lists of instructions; the statement's tiny programs in memory. No condition. -/
import Derived.Test.YtckpaikppgjfnaaGreatDoorKO
import Derived.Deep.AppendLies
set_option linter.unusedSimpArgs false
set_option linter.unusedVariables false
namespace Go.Proofs.YtckpaikppgjfnaaGreatDoor
open Go.RowKit

def inC (x : InsV) : List Value := [.int .i64 x.op, .int .i64 x.d, .int .i64 x.a, .int .i64 x.b, .int .i64 x.n, .int .i64 x.m, .slice none 0 0]
def OwI (w : World) (base : Nat) (v : Value) (l : List InsV) : Prop := w.ownsRow base 38 7 v l.length (l.flatMap inC)
theorem flat7 : ∀ (l : List InsV) (j i : Nat) (y : InsV), l[j]? = some y → i < 7 → (l.flatMap inC)[j * 7 + i]? = (inC y)[i]?
  | [], j, i, y, h, _ => by simp at h
  | x :: l, 0, i, y, h, hi => by
    simp at h
    subst h
    rw [List.flatMap_cons, Nat.zero_mul, Nat.zero_add, List.getElem?_append_left (by exact hi)]
  | x :: l, j + 1, i, y, h, hi => by
    have h1 : (inC x).length = 7 := rfl
    rw [List.flatMap_cons, List.getElem?_append_right (by rw [h1, Nat.succ_mul]; omega), h1, show (j + 1) * 7 + i - 7 = j * 7 + i by rw [Nat.succ_mul]; omega]
    exact flat7 l j i y (by simpa using h) hi
theorem OwI.cells {w : World} {base g cap : Nat} {l : List InsV} (h : OwI w base (.slice (some ⟨g, 0, none⟩) l.length cap) l) {j : Nat} {y : InsV} (hy : l[j]? = some y) {i : Nat} {u : Value} (hu : (inC y)[i]? = some u) : w.cell? ⟨g, j * 7 + i, none⟩ = some u := by
  have hi : i < 7 := (List.getElem?_eq_some_iff.1 hu).1
  have hj : j < l.length := (List.getElem?_eq_some_iff.1 hy).1
  rw [World.ownsRow.cellAt h (j * 7 + i) (by omega), flat7 l j i y hy hi]
  exact hu
theorem info_ins : (Tryz.prog.info? 38).map (fun i => (i.zero, i.size, i.bytes)) = some (some (.agg #[.int .i64 0, .int .i64 0, .int .i64 0, .int .i64 0, .int .i64 0, .int .i64 0, .slice none 0 0]), 7, 72) := by kernel_rfl
theorem inC_one {l : List InsV} : ∀ u ∈ l.flatMap inC, u.oneCell' = true := by
  intro u hu
  obtain ⟨x, -, hx⟩ := List.mem_flatMap.1 hu
  simp [inC] at hx
  rcases hx with rfl | rfl | rfl | rfl | rfl | rfl | rfl <;> rfl
theorem flat7_len (l : List InsV) : (l.flatMap inC).length = l.length * 7 := by
  induction l with
  | nil => rfl
  | cons x l ih => rw [List.flatMap_cons, List.length_append, ih, List.length_cons, show (inC x).length = 7 from rfl]; omega
theorem OwI.lit (w : World) {base : Nat} (cs : Array Value) (l : List InsV) (n : Nat) (hn : l.length = n) (hb : base ≤ w.heap.size) (hm : n ≤ 100) (hs : cs.toList = l.flatMap inC) : OwI (w.alloc (.cells cs 38)) base (.slice (some ⟨w.heap.size, 0, none⟩) n n) l := by
  subst hn
  unfold OwI
  rw [← hs]
  exact World.ownsRow_lit w cs _ hb (by simp only [maxLen]; omega) (by rw [← Array.length_toList, hs, flat7_len])
/-- append(v, ..): the call's own list, what is appended in a block of its own. -/
theorem wpList_append_ins {w : World} {ops : Array Oper} {rest : List Oper} {o : Oper} {a : Act} {Q : Exit → Act → World → Prop} (hgd : o.guard = none) (s x : Operand)
    (ho : o.op = .call { callee := .builtin .append, args := #[s, x], argTypes := #[30, 30] })
    (base : Nat) (v : Value) (n : Nat) (l : List InsV) (hln : l.length = n) (hs : a.eval s = v) (hown : OwI w base v l) (H m c : Nat) (new : List InsV) (hnl : new.length = m) (cs : Array Value) (hH : Box w H cs 38) (hcs : cs.toList = new.flatMap inC)
    (hx : a.eval x = .slice (some ⟨H, 0, none⟩) m c) (hm : 0 < m) (hroom : n + m < 1000000) (hbase : base ≤ w.heap.size)
    (h : ∀ g cap w', OwI w' base (.slice (some ⟨g, 0, none⟩) (n + m) cap) (l ++ new) → w.grownBy w' v.ownBlock → (v.ownBlock = some g ∨ g = w.heap.size) → g < w'.heap.size → wpList Tryz.prog ops Q rest (a.put o.dst (.slice (some ⟨g, 0, none⟩) (n + m) cap)) w') :
    wpList Tryz.prog ops Q (o :: rest) a w := by
  subst hln
  subst hnl
  obtain ⟨i0, hi0, hz0, hz1, hz2⟩ := info_parts info_ins
  exact wpList_append_lies w hgd s x _ ho base 38 i0 _ 7 72 (by kernel_rfl) hi0 hz0 hz1 hz2 rfl (by omega) v l.length (l.flatMap inC) hs hown ⟨H, 0, none⟩ new.length c (new.flatMap inC) hx (flat7_len new)
    (by rw [← hcs]; exact World.news_of_block hH) inC_one hm (by simp only [maxLen]; omega) (by omega) hbase w.heap.size rfl
    fun g cap w' h2 h3 h4 h5 => h g cap w' (by unfold OwI; rw [List.flatMap_append, List.length_append]; exact h2) h3 h4 h5
theorem OwI.cap {w : World} {base g n cap : Nat} {l : List InsV} (h : OwI w base (.slice (some ⟨g, 0, none⟩) n cap) l) : l.length ≤ cap ∧ cap ≤ maxLen := by
  rcases h.2 with ⟨h, -⟩ | ⟨g', cap', cur, e, hg, hh, hnc, hcm, -⟩
  · cases h
  · injection e with _ _ e
    subst e
    exact ⟨hnc, hcm⟩
theorem OwI.but {w w' : World} {base g n cap h : Nat} {l : List InsV} (hr : OwI w base (.slice (some ⟨g, 0, none⟩) n cap) l) (hb : But h w w') (hg : g ≠ h) : OwI w' base (.slice (some ⟨g, 0, none⟩) n cap) l :=
  World.ownsRow.kept hr (row := some h) ⟨hb.os, hb.tape, hb.output, hb.size, fun i hi hne => hb.block i hi (fun e => hne (by rw [e]))⟩ (.inr (by simp [Value.ownBlock]; exact hg))
/-- A tiny program in memory: at K what tells its function lies, its code is the call's own. -/
def TinyK (w : World) (base K g cap : Nat) (l : List InsV) : Prop :=
  OwI w base (.slice (some ⟨g, 0, none⟩) l.length cap) l ∧ Box w K #[.int .i64 0, .int .i64 1, .int .i64 2] 3 ∧ Box w (K + 1) #[.int .i64 (-1), .int .i64 (-1), .int .i64 1] 3 ∧ Box w (K + 1 + 1) #[.slice (some ⟨g, 0, none⟩) l.length cap] 32 ∧
    Box w (K + 1 + 1 + 1) #[.slice (some ⟨K, 0, none⟩) 3 3, .slice (some ⟨K + 1, 0, none⟩) 3 3, .int .i64 0, .int .i64 0, .slice (some ⟨K + 1 + 1, 0, none⟩) 1 1] 36 ∧ base ≤ K ∧ base ≤ g ∧ l.length ≤ cap ∧ cap ≤ maxLen
set_option maxHeartbeats 2000000 in
set_option maxRecDepth 100000 in
theorem tinyF_any (w : World) : Calls Tryz.prog 8 #[.bool false] w fun e w' => ∃ K g cap, e = .returned (.agg #[.slice (some ⟨K + 1 + 1 + 1, 0, none⟩) 1 1]) ∧ TinyK w' w.heap.size K g cap [iA, iD, iL, iR] ∧ Below w.heap.size w w' := by
  go_enter Tryz.func8, Tryz.ntmps8
  go_upto_region 2 with (fail)
  obtain ⟨w1, hw1⟩ : ∃ w1, w1 = (w.alloc (.cells #[.slice none 0 0] 24)).alloc (.cells #[.int .i64 10, .int .i64 1, .int .i64 0, .int .i64 0, .int .i64 0, .int .i64 2, .slice none 0 0, .int .i64 15, .int .i64 2, .int .i64 1, .int .i64 0, .int .i64 0, .int .i64 0, .slice none 0 0] 38) := ⟨_, rfl⟩
  obtain ⟨h5, hh5⟩ : ∃ h5, w.heap.size = h5 := ⟨_, rfl⟩
  have HX0 := hide (show Box w1 (h5) #[.slice none 0 0] 24 by rw [hw1, ← hh5]; have t := Box.new w #[.slice none 0 0] 24; (try simp only [World.size_alloc] at t); exact (t.alloc _))
  have HX1 := hide (show Box w1 (h5 + 1) #[.int .i64 10, .int .i64 1, .int .i64 0, .int .i64 0, .int .i64 0, .int .i64 2, .slice none 0 0, .int .i64 15, .int .i64 2, .int .i64 1, .int .i64 0, .int .i64 0, .int .i64 0, .slice none 0 0] 38 by rw [hw1, ← hh5]; have t := Box.new (w.alloc (.cells #[.slice none 0 0] 24)) #[.int .i64 10, .int .i64 1, .int .i64 0, .int .i64 0, .int .i64 0, .int .i64 2, .slice none 0 0, .int .i64 15, .int .i64 2, .int .i64 1, .int .i64 0, .int .i64 0, .int .i64 0, .slice none 0 0] 38; (try simp only [World.size_alloc] at t); exact t)
  have HB1 := hide (show Below w.heap.size w w1 by rw [hw1]; exact (((Below.refl _ _).alloc (Nat.le_refl _) _).alloc (by simp only [World.size_alloc]; omega) _))
  have w1s := HB1.out.size
  have w1z := hide (show w1.heap.size = h5 + 1 + 1 by rw [hw1, ← hh5]; simp only [World.size_alloc])
  have HK0 := hide (fun (W : World) (hW : Below w1.heap.size w1 W) => ((HX0.out.below hW).cell 0 (v := .slice none 0 0) rfl).1)
  have lHX0 := HX0.out.lt
  have HK1 := hide (fun (W : World) (hW : Below w1.heap.size w1 W) => (And.intro ((HX1.out.below hW).cell 0 (v := .int .i64 10) rfl).1 (And.intro ((HX1.out.below hW).cell 1 (v := .int .i64 1) rfl).1 (And.intro ((HX1.out.below hW).cell 2 (v := .int .i64 0) rfl).1 (And.intro ((HX1.out.below hW).cell 3 (v := .int .i64 0) rfl).1 (And.intro ((HX1.out.below hW).cell 4 (v := .int .i64 0) rfl).1 (And.intro ((HX1.out.below hW).cell 5 (v := .int .i64 2) rfl).1 (And.intro ((HX1.out.below hW).cell 6 (v := .slice none 0 0) rfl).1 (And.intro ((HX1.out.below hW).cell 7 (v := .int .i64 15) rfl).1 (And.intro ((HX1.out.below hW).cell 8 (v := .int .i64 2) rfl).1 (And.intro ((HX1.out.below hW).cell 9 (v := .int .i64 1) rfl).1 (And.intro ((HX1.out.below hW).cell 10 (v := .int .i64 0) rfl).1 (And.intro ((HX1.out.below hW).cell 11 (v := .int .i64 0) rfl).1 (And.intro ((HX1.out.below hW).cell 12 (v := .int .i64 0) rfl).1 ((HX1.out.below hW).cell 13 (v := .slice none 0 0) rfl).1))))))))))))))
  have lHX1 := HX1.out.lt
  have h5g : w.heap.size ≤ h5 := by omega
  have HO1 := hide (show OwI w1 w.heap.size (.slice (some ⟨h5 + 1, 0, none⟩) 2 2) [iA, iD] by rw [hw1, ← hh5]; have t := OwI.lit (w.alloc (.cells #[.slice none 0 0] 24)) (base := w.heap.size) #[.int .i64 10, .int .i64 1, .int .i64 0, .int .i64 0, .int .i64 0, .int .i64 2, .slice none 0 0, .int .i64 15, .int .i64 2, .int .i64 1, .int .i64 0, .int .i64 0, .int .i64 0, .slice none 0 0] [iA, iD] 2 rfl (by simp) (by omega) rfl; rw [World.size_alloc] at t; exact t)
  rw [← hw1, hh5]
  clear hw1 hh5
  go_upto_region 5 with (at_builtin; refine wpList_append_ins rfl _ _ rfl w.heap.size _ 2 [iA, iD] rfl rfl (World.ownsRow.alloc HO1.out _) _ 2 2 [iL, iR] rfl #[.int .i64 17, .int .i64 0, .int .i64 2, .int .i64 0, .int .i64 0, .int .i64 0, .slice none 0 0, .int .i64 23, .int .i64 0, .int .i64 0, .int .i64 0, .int .i64 0, .int .i64 0, .slice none 0 0] (Box.new w1 _ _) rfl rfl (by omega) (by omega) (by simp only [World.size_alloc]; omega) ?_; intro g3 cap3 w3 how hgr hg hgl; have HO3 := hide how; have HG3 := hide hgr; have HL3 := hide hg; clear how hgr hg hgl)
  have HBL3 := hide (bel_of_range (((HB1.out.trans (((Below.refl _ _).alloc (Nat.le_refl _) _).mono HB1.out.size)) : Below w.heap.size w (w1.alloc _))) HG3.out (by show w.heap.size ≤ h5 + 1; omega))
  have HP3 := hide (show Box w3 h5 #[.slice none 0 0] 24 from (But.of_grown HG3.out).box (HX0.out.alloc _) (by show h5 ≠ h5 + 1; omega))
  have hz3 := HBL3.out.size
  have hg3 := World.ownsRow.lt HO3.out g3 rfl
  have hp3 := HP3.out.lt
  have qa : ∀ o1 o2 o3 o4, ((((w3.alloc o1).alloc o2).alloc o3).alloc o4).cell? ⟨h5, 0, none⟩ = some (.slice none 0 0) := fun _ _ _ _ => (((((HP3.out.alloc _).alloc _).alloc _).alloc _).cell 0 (v := .slice none 0 0) rfl).1
  have qf : ∀ o1 o2 o3 o4, ((((w3.alloc o1).alloc o2).alloc o3).alloc o4).frozen? ⟨h5, 0, none⟩ = false := fun _ _ _ _ => (((((HP3.out.alloc _).alloc _).alloc _).alloc _).cell 0 (v := .slice none 0 0) rfl).2
  go_wp2
  clear qa qf
  have hgne : g3 ≠ h5 := by
    rcases HL3.out with h | h
    · have : h5 + 1 = g3 := Option.some.inj (show some (h5 + 1) = some g3 from h)
      omega
    · rw [World.size_alloc] at h
      omega
  obtain ⟨w4, hw4⟩ : ∃ w4, w4 = (((w3.alloc (.cells #[.int .i64 0, .int .i64 1, .int .i64 2] 3)).alloc (.cells #[.int .i64 (-1), .int .i64 (-1), .int .i64 1] 3)).alloc (.cells #[.slice (some ⟨g3, 0, none⟩) 4 cap3] 32)).alloc (.cells #[.slice (some ⟨w3.heap.size, 0, none⟩) 3 3, .slice (some ⟨w3.heap.size + 1, 0, none⟩) 3 3, .int .i64 0, .int .i64 0, .slice (some ⟨w3.heap.size + 1 + 1, 0, none⟩) 1 1] 36) := ⟨_, rfl⟩
  obtain ⟨h6, hh6⟩ : ∃ h6, w3.heap.size = h6 := ⟨_, rfl⟩
  have HTX0 := hide (show Box w4 (h6) #[.int .i64 0, .int .i64 1, .int .i64 2] 3 by rw [hw4, ← hh6]; have t := Box.new w3 #[.int .i64 0, .int .i64 1, .int .i64 2] 3; (try simp only [World.size_alloc] at t); exact (((t.alloc _).alloc _).alloc _))
  have HTX1 := hide (show Box w4 (h6 + 1) #[.int .i64 (-1), .int .i64 (-1), .int .i64 1] 3 by rw [hw4, ← hh6]; have t := Box.new (w3.alloc (.cells #[.int .i64 0, .int .i64 1, .int .i64 2] 3)) #[.int .i64 (-1), .int .i64 (-1), .int .i64 1] 3; (try simp only [World.size_alloc] at t); exact ((t.alloc _).alloc _))
  have HTX2 := hide (show Box w4 (h6 + 1 + 1) #[.slice (some ⟨g3, 0, none⟩) 4 cap3] 32 by rw [hw4, ← hh6]; have t := Box.new ((w3.alloc (.cells #[.int .i64 0, .int .i64 1, .int .i64 2] 3)).alloc (.cells #[.int .i64 (-1), .int .i64 (-1), .int .i64 1] 3)) #[.slice (some ⟨g3, 0, none⟩) 4 cap3] 32; (try simp only [World.size_alloc] at t); exact (t.alloc _))
  have HTX3 := hide (show Box w4 (h6 + 1 + 1 + 1) #[.slice (some ⟨w3.heap.size, 0, none⟩) 3 3, .slice (some ⟨w3.heap.size + 1, 0, none⟩) 3 3, .int .i64 0, .int .i64 0, .slice (some ⟨w3.heap.size + 1 + 1, 0, none⟩) 1 1] 36 by rw [hw4, ← hh6]; have t := Box.new (((w3.alloc (.cells #[.int .i64 0, .int .i64 1, .int .i64 2] 3)).alloc (.cells #[.int .i64 (-1), .int .i64 (-1), .int .i64 1] 3)).alloc (.cells #[.slice (some ⟨g3, 0, none⟩) 4 cap3] 32)) #[.slice (some ⟨w3.heap.size, 0, none⟩) 3 3, .slice (some ⟨w3.heap.size + 1, 0, none⟩) 3 3, .int .i64 0, .int .i64 0, .slice (some ⟨w3.heap.size + 1 + 1, 0, none⟩) 1 1] 36; (try simp only [World.size_alloc] at t); exact t)
  have HB4 := hide (show Below w3.heap.size w3 w4 by rw [hw4]; exact (((((Below.refl _ _).alloc (Nat.le_refl _) _).alloc (by simp only [World.size_alloc]; omega) _).alloc (by simp only [World.size_alloc]; omega) _).alloc (by simp only [World.size_alloc]; omega) _))
  have w4s := HB4.out.size
  have w4z := hide (show w4.heap.size = h6 + 1 + 1 + 1 + 1 by rw [hw4, ← hh6]; simp only [World.size_alloc])
  have HTK0 := hide (fun (W : World) (hW : Below w4.heap.size w4 W) => (And.intro ((HTX0.out.below hW).cell 0 (v := .int .i64 0) rfl).1 (And.intro ((HTX0.out.below hW).cell 1 (v := .int .i64 1) rfl).1 ((HTX0.out.below hW).cell 2 (v := .int .i64 2) rfl).1)))
  have lHTX0 := HTX0.out.lt
  have HTK1 := hide (fun (W : World) (hW : Below w4.heap.size w4 W) => (And.intro ((HTX1.out.below hW).cell 0 (v := .int .i64 (-1)) rfl).1 (And.intro ((HTX1.out.below hW).cell 1 (v := .int .i64 (-1)) rfl).1 ((HTX1.out.below hW).cell 2 (v := .int .i64 1) rfl).1)))
  have lHTX1 := HTX1.out.lt
  have HTK2 := hide (fun (W : World) (hW : Below w4.heap.size w4 W) => ((HTX2.out.below hW).cell 0 (v := .slice (some ⟨g3, 0, none⟩) 4 cap3) rfl).1)
  have lHTX2 := HTX2.out.lt
  have HTK3 := hide (fun (W : World) (hW : Below w4.heap.size w4 W) => (And.intro ((HTX3.out.below hW).cell 0 (v := .slice (some ⟨w3.heap.size, 0, none⟩) 3 3) rfl).1 (And.intro ((HTX3.out.below hW).cell 1 (v := .slice (some ⟨w3.heap.size + 1, 0, none⟩) 3 3) rfl).1 (And.intro ((HTX3.out.below hW).cell 2 (v := .int .i64 0) rfl).1 (And.intro ((HTX3.out.below hW).cell 3 (v := .int .i64 0) rfl).1 ((HTX3.out.below hW).cell 4 (v := .slice (some ⟨w3.heap.size + 1 + 1, 0, none⟩) 1 1) rfl).1)))))
  have lHTX3 := HTX3.out.lt
  have h6g : w3.heap.size ≤ h6 := by omega
  have HTX3 := hide (by have t := HTX3.out; rw [hh6] at t; exact t)
  rw [← hw4, hh6]
  clear hw4 hh6
  obtain ⟨w5, hw5⟩ : ∃ w5, w5 = w4.setCell ⟨h5, 0, none⟩ (.slice (some ⟨h6 + 1 + 1 + 1, 0, none⟩) 1 1) := ⟨_, rfl⟩
  have HG5 := hide (show But h5 w4 w5 by rw [hw5]; exact (But.refl _ _).set)
  have q5 : w5.cell? ⟨h5, 0, none⟩ = some (.slice (some ⟨h6 + 1 + 1 + 1, 0, none⟩) 1 1) := by
    rw [hw5]
    exact (((HP3.out.below HB4.out).set 0 (.slice (some ⟨h6 + 1 + 1 + 1, 0, none⟩) 1 1)).cell 0 (v := .slice (some ⟨h6 + 1 + 1 + 1, 0, none⟩) 1 1) rfl).1
  rw [← hw5]
  clear hw5
  have hz4 := w4z.out
  refine bodyPost_ret (v := .agg #[.slice (some ⟨h6 + 1 + 1 + 1, 0, none⟩) 1 1]) (by simp [results, Tryz.results8, go_sem, q5]) rfl ⟨h6, g3, cap3, rfl, ⟨HO3.out.but ((But.of_bel HB4.out).trans' HG5.out) hgne, HG5.out.box HTX0.out (by omega), HG5.out.box HTX1.out (by omega), HG5.out.box HTX2.out (by omega), HG5.out.box HTX3.out (by omega), by omega, hg3.1, HO3.out.cap.1, HO3.out.cap.2⟩, HG5.out.below (HBL3.out.trans (HB4.out.mono hz3)) (by omega) (by omega)⟩
set_option maxHeartbeats 2000000 in
set_option maxRecDepth 100000 in
theorem tinyT_any (w : World) : Calls Tryz.prog 8 #[.bool true] w fun e w' => ∃ K g cap, e = .returned (.agg #[.slice (some ⟨K + 1 + 1 + 1, 0, none⟩) 1 1]) ∧ TinyK w' w.heap.size K g cap [iA, iD, iZ, iL, iR] ∧ Below w.heap.size w w' := by
  go_enter Tryz.func8, Tryz.ntmps8
  go_upto_region 2 with (fail)
  obtain ⟨w1, hw1⟩ : ∃ w1, w1 = (w.alloc (.cells #[.slice none 0 0] 24)).alloc (.cells #[.int .i64 10, .int .i64 1, .int .i64 0, .int .i64 0, .int .i64 0, .int .i64 2, .slice none 0 0, .int .i64 15, .int .i64 2, .int .i64 1, .int .i64 0, .int .i64 0, .int .i64 0, .slice none 0 0] 38) := ⟨_, rfl⟩
  obtain ⟨h5, hh5⟩ : ∃ h5, w.heap.size = h5 := ⟨_, rfl⟩
  have HX0 := hide (show Box w1 (h5) #[.slice none 0 0] 24 by rw [hw1, ← hh5]; have t := Box.new w #[.slice none 0 0] 24; (try simp only [World.size_alloc] at t); exact (t.alloc _))
  have HX1 := hide (show Box w1 (h5 + 1) #[.int .i64 10, .int .i64 1, .int .i64 0, .int .i64 0, .int .i64 0, .int .i64 2, .slice none 0 0, .int .i64 15, .int .i64 2, .int .i64 1, .int .i64 0, .int .i64 0, .int .i64 0, .slice none 0 0] 38 by rw [hw1, ← hh5]; have t := Box.new (w.alloc (.cells #[.slice none 0 0] 24)) #[.int .i64 10, .int .i64 1, .int .i64 0, .int .i64 0, .int .i64 0, .int .i64 2, .slice none 0 0, .int .i64 15, .int .i64 2, .int .i64 1, .int .i64 0, .int .i64 0, .int .i64 0, .slice none 0 0] 38; (try simp only [World.size_alloc] at t); exact t)
  have HB1 := hide (show Below w.heap.size w w1 by rw [hw1]; exact (((Below.refl _ _).alloc (Nat.le_refl _) _).alloc (by simp only [World.size_alloc]; omega) _))
  have w1s := HB1.out.size
  have w1z := hide (show w1.heap.size = h5 + 1 + 1 by rw [hw1, ← hh5]; simp only [World.size_alloc])
  have HK0 := hide (fun (W : World) (hW : Below w1.heap.size w1 W) => ((HX0.out.below hW).cell 0 (v := .slice none 0 0) rfl).1)
  have lHX0 := HX0.out.lt
  have HK1 := hide (fun (W : World) (hW : Below w1.heap.size w1 W) => (And.intro ((HX1.out.below hW).cell 0 (v := .int .i64 10) rfl).1 (And.intro ((HX1.out.below hW).cell 1 (v := .int .i64 1) rfl).1 (And.intro ((HX1.out.below hW).cell 2 (v := .int .i64 0) rfl).1 (And.intro ((HX1.out.below hW).cell 3 (v := .int .i64 0) rfl).1 (And.intro ((HX1.out.below hW).cell 4 (v := .int .i64 0) rfl).1 (And.intro ((HX1.out.below hW).cell 5 (v := .int .i64 2) rfl).1 (And.intro ((HX1.out.below hW).cell 6 (v := .slice none 0 0) rfl).1 (And.intro ((HX1.out.below hW).cell 7 (v := .int .i64 15) rfl).1 (And.intro ((HX1.out.below hW).cell 8 (v := .int .i64 2) rfl).1 (And.intro ((HX1.out.below hW).cell 9 (v := .int .i64 1) rfl).1 (And.intro ((HX1.out.below hW).cell 10 (v := .int .i64 0) rfl).1 (And.intro ((HX1.out.below hW).cell 11 (v := .int .i64 0) rfl).1 (And.intro ((HX1.out.below hW).cell 12 (v := .int .i64 0) rfl).1 ((HX1.out.below hW).cell 13 (v := .slice none 0 0) rfl).1))))))))))))))
  have lHX1 := HX1.out.lt
  have h5g : w.heap.size ≤ h5 := by omega
  have HO1 := hide (show OwI w1 w.heap.size (.slice (some ⟨h5 + 1, 0, none⟩) 2 2) [iA, iD] by rw [hw1, ← hh5]; have t := OwI.lit (w.alloc (.cells #[.slice none 0 0] 24)) (base := w.heap.size) #[.int .i64 10, .int .i64 1, .int .i64 0, .int .i64 0, .int .i64 0, .int .i64 2, .slice none 0 0, .int .i64 15, .int .i64 2, .int .i64 1, .int .i64 0, .int .i64 0, .int .i64 0, .slice none 0 0] [iA, iD] 2 rfl (by simp) (by omega) rfl; rw [World.size_alloc] at t; exact t)
  rw [← hw1, hh5]
  clear hw1 hh5
  go_upto_region 4 with (at_builtin; refine wpList_append_ins rfl _ _ rfl w.heap.size _ 2 [iA, iD] rfl rfl (World.ownsRow.alloc HO1.out _) _ 1 1 [iZ] rfl #[.int .i64 7, .int .i64 1, .int .i64 0, .int .i64 0, .int .i64 0, .int .i64 0, .slice none 0 0] (Box.new w1 _ _) rfl rfl (by omega) (by omega) (by simp only [World.size_alloc]; omega) ?_; intro g2 cap2 w2 how hgr hg hgl; have HO2 := hide how; have HG2 := hide hgr; have HL2 := hide hg; clear how hgr hg hgl)
  have HZ2 := hide (show w1.heap.size + 1 ≤ w2.heap.size by have := HG2.out.size; rw [World.size_alloc] at this; exact this)
  have HBL2 := hide (bel_of_range (((HB1.out.trans (((Below.refl _ _).alloc (Nat.le_refl _) _).mono HB1.out.size)) : Below w.heap.size w (w1.alloc _))) HG2.out (by show w.heap.size ≤ h5 + 1; omega))
  have HP2 := hide (show Box w2 h5 #[.slice none 0 0] 24 from (But.of_grown HG2.out).box (HX0.out.alloc _) (by show h5 ≠ h5 + 1; omega))
  have hz2 := HZ2.out
  have hg2 := World.ownsRow.lt HO2.out g2 rfl
  go_upto_region 5 with (at_builtin; refine wpList_append_ins rfl _ _ rfl w.heap.size _ (2 + 1) ([iA, iD] ++ [iZ]) rfl rfl (World.ownsRow.alloc HO2.out _) _ 2 2 [iL, iR] rfl #[.int .i64 17, .int .i64 0, .int .i64 2, .int .i64 0, .int .i64 0, .int .i64 0, .slice none 0 0, .int .i64 23, .int .i64 0, .int .i64 0, .int .i64 0, .int .i64 0, .int .i64 0, .slice none 0 0] (Box.new w2 _ _) rfl rfl (by omega) (by omega) (by simp only [World.size_alloc]; omega) ?_; intro g3 cap3 w3 how hgr hg hgl; have HO3 := hide how; have HG3 := hide hgr; have HL3 := hide hg; clear how hgr hg hgl)
  have HBL3 := hide (bel_of_range (((HBL2.out.trans (((Below.refl _ _).alloc (Nat.le_refl _) _).mono HBL2.out.size)) : Below w.heap.size w (w2.alloc _))) HG3.out (by show w.heap.size ≤ g2; exact hg2.1))
  have hg2ne : g2 ≠ h5 := by
    rcases HL2.out with h | h
    · have : h5 + 1 = g2 := Option.some.inj (show some (h5 + 1) = some g2 from h)
      omega
    · rw [World.size_alloc] at h
      omega
  have HP3 := hide (show Box w3 h5 #[.slice none 0 0] 24 from (But.of_grown HG3.out).box (HP2.out.alloc _) (by show h5 ≠ g2; omega))
  have hz3 := HBL3.out.size
  have hg3 := World.ownsRow.lt HO3.out g3 rfl
  have hp3 := HP3.out.lt
  have qa : ∀ o1 o2 o3 o4, ((((w3.alloc o1).alloc o2).alloc o3).alloc o4).cell? ⟨h5, 0, none⟩ = some (.slice none 0 0) := fun _ _ _ _ => (((((HP3.out.alloc _).alloc _).alloc _).alloc _).cell 0 (v := .slice none 0 0) rfl).1
  have qf : ∀ o1 o2 o3 o4, ((((w3.alloc o1).alloc o2).alloc o3).alloc o4).frozen? ⟨h5, 0, none⟩ = false := fun _ _ _ _ => (((((HP3.out.alloc _).alloc _).alloc _).alloc _).cell 0 (v := .slice none 0 0) rfl).2
  go_wp2
  clear qa qf
  have hgne : g3 ≠ h5 := by
    rcases HL3.out with h | h
    · have : g2 = g3 := Option.some.inj (show some (g2) = some g3 from h)
      omega
    · rw [World.size_alloc] at h
      omega
  obtain ⟨w4, hw4⟩ : ∃ w4, w4 = (((w3.alloc (.cells #[.int .i64 0, .int .i64 1, .int .i64 2] 3)).alloc (.cells #[.int .i64 (-1), .int .i64 (-1), .int .i64 1] 3)).alloc (.cells #[.slice (some ⟨g3, 0, none⟩) 5 cap3] 32)).alloc (.cells #[.slice (some ⟨w3.heap.size, 0, none⟩) 3 3, .slice (some ⟨w3.heap.size + 1, 0, none⟩) 3 3, .int .i64 0, .int .i64 0, .slice (some ⟨w3.heap.size + 1 + 1, 0, none⟩) 1 1] 36) := ⟨_, rfl⟩
  obtain ⟨h6, hh6⟩ : ∃ h6, w3.heap.size = h6 := ⟨_, rfl⟩
  have HTX0 := hide (show Box w4 (h6) #[.int .i64 0, .int .i64 1, .int .i64 2] 3 by rw [hw4, ← hh6]; have t := Box.new w3 #[.int .i64 0, .int .i64 1, .int .i64 2] 3; (try simp only [World.size_alloc] at t); exact (((t.alloc _).alloc _).alloc _))
  have HTX1 := hide (show Box w4 (h6 + 1) #[.int .i64 (-1), .int .i64 (-1), .int .i64 1] 3 by rw [hw4, ← hh6]; have t := Box.new (w3.alloc (.cells #[.int .i64 0, .int .i64 1, .int .i64 2] 3)) #[.int .i64 (-1), .int .i64 (-1), .int .i64 1] 3; (try simp only [World.size_alloc] at t); exact ((t.alloc _).alloc _))
  have HTX2 := hide (show Box w4 (h6 + 1 + 1) #[.slice (some ⟨g3, 0, none⟩) 5 cap3] 32 by rw [hw4, ← hh6]; have t := Box.new ((w3.alloc (.cells #[.int .i64 0, .int .i64 1, .int .i64 2] 3)).alloc (.cells #[.int .i64 (-1), .int .i64 (-1), .int .i64 1] 3)) #[.slice (some ⟨g3, 0, none⟩) 5 cap3] 32; (try simp only [World.size_alloc] at t); exact (t.alloc _))
  have HTX3 := hide (show Box w4 (h6 + 1 + 1 + 1) #[.slice (some ⟨w3.heap.size, 0, none⟩) 3 3, .slice (some ⟨w3.heap.size + 1, 0, none⟩) 3 3, .int .i64 0, .int .i64 0, .slice (some ⟨w3.heap.size + 1 + 1, 0, none⟩) 1 1] 36 by rw [hw4, ← hh6]; have t := Box.new (((w3.alloc (.cells #[.int .i64 0, .int .i64 1, .int .i64 2] 3)).alloc (.cells #[.int .i64 (-1), .int .i64 (-1), .int .i64 1] 3)).alloc (.cells #[.slice (some ⟨g3, 0, none⟩) 5 cap3] 32)) #[.slice (some ⟨w3.heap.size, 0, none⟩) 3 3, .slice (some ⟨w3.heap.size + 1, 0, none⟩) 3 3, .int .i64 0, .int .i64 0, .slice (some ⟨w3.heap.size + 1 + 1, 0, none⟩) 1 1] 36; (try simp only [World.size_alloc] at t); exact t)
  have HB4 := hide (show Below w3.heap.size w3 w4 by rw [hw4]; exact (((((Below.refl _ _).alloc (Nat.le_refl _) _).alloc (by simp only [World.size_alloc]; omega) _).alloc (by simp only [World.size_alloc]; omega) _).alloc (by simp only [World.size_alloc]; omega) _))
  have w4s := HB4.out.size
  have w4z := hide (show w4.heap.size = h6 + 1 + 1 + 1 + 1 by rw [hw4, ← hh6]; simp only [World.size_alloc])
  have HTK0 := hide (fun (W : World) (hW : Below w4.heap.size w4 W) => (And.intro ((HTX0.out.below hW).cell 0 (v := .int .i64 0) rfl).1 (And.intro ((HTX0.out.below hW).cell 1 (v := .int .i64 1) rfl).1 ((HTX0.out.below hW).cell 2 (v := .int .i64 2) rfl).1)))
  have lHTX0 := HTX0.out.lt
  have HTK1 := hide (fun (W : World) (hW : Below w4.heap.size w4 W) => (And.intro ((HTX1.out.below hW).cell 0 (v := .int .i64 (-1)) rfl).1 (And.intro ((HTX1.out.below hW).cell 1 (v := .int .i64 (-1)) rfl).1 ((HTX1.out.below hW).cell 2 (v := .int .i64 1) rfl).1)))
  have lHTX1 := HTX1.out.lt
  have HTK2 := hide (fun (W : World) (hW : Below w4.heap.size w4 W) => ((HTX2.out.below hW).cell 0 (v := .slice (some ⟨g3, 0, none⟩) 5 cap3) rfl).1)
  have lHTX2 := HTX2.out.lt
  have HTK3 := hide (fun (W : World) (hW : Below w4.heap.size w4 W) => (And.intro ((HTX3.out.below hW).cell 0 (v := .slice (some ⟨w3.heap.size, 0, none⟩) 3 3) rfl).1 (And.intro ((HTX3.out.below hW).cell 1 (v := .slice (some ⟨w3.heap.size + 1, 0, none⟩) 3 3) rfl).1 (And.intro ((HTX3.out.below hW).cell 2 (v := .int .i64 0) rfl).1 (And.intro ((HTX3.out.below hW).cell 3 (v := .int .i64 0) rfl).1 ((HTX3.out.below hW).cell 4 (v := .slice (some ⟨w3.heap.size + 1 + 1, 0, none⟩) 1 1) rfl).1)))))
  have lHTX3 := HTX3.out.lt
  have h6g : w3.heap.size ≤ h6 := by omega
  have HTX3 := hide (by have t := HTX3.out; rw [hh6] at t; exact t)
  rw [← hw4, hh6]
  clear hw4 hh6
  obtain ⟨w5, hw5⟩ : ∃ w5, w5 = w4.setCell ⟨h5, 0, none⟩ (.slice (some ⟨h6 + 1 + 1 + 1, 0, none⟩) 1 1) := ⟨_, rfl⟩
  have HG5 := hide (show But h5 w4 w5 by rw [hw5]; exact (But.refl _ _).set)
  have q5 : w5.cell? ⟨h5, 0, none⟩ = some (.slice (some ⟨h6 + 1 + 1 + 1, 0, none⟩) 1 1) := by
    rw [hw5]
    exact (((HP3.out.below HB4.out).set 0 (.slice (some ⟨h6 + 1 + 1 + 1, 0, none⟩) 1 1)).cell 0 (v := .slice (some ⟨h6 + 1 + 1 + 1, 0, none⟩) 1 1) rfl).1
  rw [← hw5]
  clear hw5
  have hz4 := w4z.out
  refine bodyPost_ret (v := .agg #[.slice (some ⟨h6 + 1 + 1 + 1, 0, none⟩) 1 1]) (by simp [results, Tryz.results8, go_sem, q5]) rfl ⟨h6, g3, cap3, rfl, ⟨HO3.out.but ((But.of_bel HB4.out).trans' HG5.out) hgne, HG5.out.box HTX0.out (by omega), HG5.out.box HTX1.out (by omega), HG5.out.box HTX2.out (by omega), HG5.out.box HTX3.out (by omega), by omega, hg3.1, HO3.out.cap.1, HO3.out.cap.2⟩, HG5.out.below (HBL3.out.trans (HB4.out.mono hz3)) (by omega) (by omega)⟩
end Go.Proofs.YtckpaikppgjfnaaGreatDoor
