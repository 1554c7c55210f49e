/- Layer 9, the program: contracts of what Reach hands on (Reach$1), and of Reach. No condition but on lengths. -/
import Derived.Test.YtjlndibeaklcdaaHI
import Derived.Test.YtjlndibeaklcdaaHM
import Derived.Maps.AppendAt
set_option linter.unusedSimpArgs false
set_option linter.unusedVariables false
namespace Go.Proofs.Ytjlndibeaklcdaa
open Go.RowKit

theorem wpList_append_atH {P : Program} (w : World) {ops : Array Oper} {rest : List Oper} {o : Oper} {a : Act} {Q : Exit → Act → World → Prop} (hgd : o.guard = none) (s x : Operand) (t : TypeId)
    (ho : o.op = .call { callee := .builtin .append, args := #[s, x], argTypes := #[t, t] })
    (base : Nat) (i : TypeInfo) (z : Value) (ht : P.underlying t = some (.slice 3)) (hi : P.info? 3 = some i) (hz : i.zero = some z)
    (hsize : i.size = 1) (hby : i.bytes = 8) (hzs : z.cells.size = 1)
    (v : Value) (zs : List Int) (hs : a.eval s = v) (hown : Ow w base 3 .i64 v zs) (y : Int)
    (hx : a.eval x = .slice (some ⟨w.heap.size, 0, none⟩) 1 1)
    (hroom : zs.length < 1000000) (hbase : base ≤ w.heap.size)
    (h : ∀ v' w', Ow w' base 3 .i64 v' (zs ++ [y]) → (w.alloc (.cells #[.int .i64 y] 3)).grownBy w' v.ownBlock → (v'.ownBlock = v.ownBlock ∨ v'.ownBlock = some (w.heap.size + 1)) → wpList P ops Q rest (a.put o.dst v') w') :
    wpList P ops Q (o :: rest) a (w.alloc (.cells #[.int .i64 y] 3)) := by
  refine wpList_plain hgd fun K hK => ?_
  have hown' : (w.alloc (.cells #[.int .i64 y] 3)).ownsRow base 3 1 v zs.length (zs.map (Value.int .i64)) := World.ownsRow.alloc hown _
  obtain ⟨v', w', hrun, h2, h3, -, h5⟩ := run_append_own_at (P := P) (w.alloc (.cells #[.int .i64 y] 3)) base t o.type 3 i z 1 8 ht hi hz hsize hby hzs (by omega) v zs.length (zs.map (Value.int .i64)) hown'
    ⟨w.heap.size, 0, none⟩ 1 1 [.int .i64 y] rfl
    (fun j u hu => by
      rw [Addr.add_lit, cell_of_row (w.alloc (.cells #[.int .i64 y] 3)) w.heap.size (0 + j) _ _ (0, 0) (heap_alloc_new w _), Nat.zero_add, ← Array.getElem?_toList]
      exact hu) (by intro u hu; simp at hu; subst hu; rfl) (by simp only [maxLen]; omega) (by omega) (by simp only [World.size_alloc]; omega)
  unfold Oper.wp execOp
  simp only [ho, resolve, invoke, builtin, Sem.run_bind, Sem.run_pure, Result.andThen_ok, List.map_toArray, List.map_cons, List.map_nil, hs, hx, hrun]
  refine hK _ _ (h v' w' ?_ h3 (by simpa only [World.size_alloc] using h5))
  unfold Ow
  rw [List.map_append, List.length_append]
  exact h2
set_option maxHeartbeats 2000000 in
set_option maxRecDepth 100000 in
theorem len64_zeroH (w : World) : Calls Try.prog 54 #[.int .u64 0] w fun e w' => e = .returned (.int .i64 0) ∧ w = w' := by
  go_enter Try.func54, Try.ntmps54
  go_wp2
  go_ret
  exact ⟨by first | rfl | kernel_rfl | (simp [Lib.len8]; done), rfl⟩
set_option maxHeartbeats 2000000 in
set_option maxRecDepth 100000 in
theorem len_zeroH (w : World) : Calls Try.prog 40 #[.int .u64 0] w fun e w' => e = .returned (.int .i64 0) ∧ w = w' := by
  have HL := hide (fun W => len64_zeroH W)
  go_enter Try.func40, Try.ntmps40
  go_wp2_with (go_at_call 54; refine (HL.out _).mono ?_; rintro e w' ⟨rfl, rfl⟩)
  go_ret
  exact ⟨rfl, rfl⟩
set_option maxHeartbeats 2000000 in
set_option maxRecDepth 100000 in
theorem insert_nilH (w : World) : Calls Try.prog 44 #[.slice none 0 0, .int .i64 0, .int .i64 0] w fun e w' => e = .returned (.tuple #[]) ∧ w = w' := by
  go_enter Try.func44, Try.ntmps44
  go_wp2
  go_loopw [6] (fun i wr => i = .int .i64 1 ∧ wr = w) (fun _ _ => 0)
  case atStart => exact ⟨rfl, rfl⟩
  case round =>
    obtain ⟨rfl, rfl⟩ := hrel
    go_wp2
    go_end0
    exact ⟨rfl, rfl⟩
set_option maxHeartbeats 2000000 in
set_option maxRecDepth 100000 in
theorem pdq_nilH (w : World) : Calls Try.prog 39 #[.slice none 0 0, .int .i64 0, .int .i64 0, .int .i64 0] w fun e w' => e = .returned (.tuple #[]) ∧ w = w' := by
  have HI := hide (fun W => insert_nilH W)
  go_enter Try.func39, Try.ntmps39
  go_wp2
  go_loopw [1, 2] (fun i j wr => i = .int .i64 0 ∧ j = .int .i64 0 ∧ wr = w) (fun _ _ _ => 0)
  case atStart => exact ⟨rfl, rfl, rfl⟩
  case round =>
    obtain ⟨rfl, rfl, rfl⟩ := hrel
    go_wp2_with (go_at_call 44; refine (HI.out _).mono ?_; rintro e w' ⟨rfl, rfl⟩)
    refine bodyPost_ret (results_none rfl _ _ _) rfl ?_
    exact ⟨rfl, rfl⟩
set_option maxHeartbeats 2000000 in
set_option maxRecDepth 100000 in
theorem sort_nilH (w : World) : Calls Try.prog 30 #[.slice none 0 0] w fun e w' => e = .returned (.tuple #[]) ∧ w = w' := by
  have HL := hide (fun W => len_zeroH W)
  have HP := hide (fun W => pdq_nilH W)
  go_enter Try.func30, Try.ntmps30
  go_wp2_with (first
    | (go_at_call 39; refine (HP.out _).mono ?_; rintro e w' ⟨rfl, rfl⟩)
    | (go_at_call 40; refine (HL.out _).mono ?_; rintro e w' ⟨rfl, rfl⟩))
  go_end0
  exact ⟨rfl, rfl⟩
/-- slices.Sort on a slice that the call owns, be it nil. -/
theorem sortAll_anyH (v : Value) (l : List Int) (base : Nat) (w : World) (hv : Ow w base 3 .i64 v l) (hn : l.length ≤ 1000) :
    Calls Try.prog 30 #[v] w fun e w' => e = .returned (.tuple #[]) ∧ Ow w' base 3 .i64 v (sortL l) ∧ Below base w w' := by
  rcases hv.2 with ⟨rfl, hz⟩ | ⟨g, cap, cur, rfl, hg, hh, hnc, hcm, hsz, htake⟩
  · have hl : l = [] := List.eq_nil_of_length_eq_zero hz
    subst hl
    refine (sort_nilH w).mono ?_
    rintro e w' ⟨rfl, rfl⟩
    exact ⟨rfl, by rw [show sortL [] = [] by simp [sortL]]; exact Ow.nil _ _ _ _, Below.refl _ _⟩
  · have hgl : g < w.heap.size := (Array.getElem?_eq_some_iff.1 hh).1
    have hH := holds_of_blockI hh (by simpa using htake)
    refine (sort_int g 0 cap l w hH hgl (by omega)).mono fun e w' ⟨he, n, os, hw⟩ => ⟨he, ?_, ?_⟩
    · rw [hw]
      unfold Ow
      have h := ownsRow_sortedI (w := w) (n := n) (os := os) (ts := sortL l) (sortL_len l) hg hh hnc hcm hsz
      rw [sortL_len]
      exact h
    · rw [hw]
      exact (Below.refl _ _).grown (grownBy_sortedI _) (by omega) (fun k hk => by injection hk with hk; omega)
theorem Box.neH {w : World} {a b : Nat} {cs ds : Array Value} {S T : TypeId} (x : Box w a cs S) (y : Box w b ds T) (h : S ≠ T) : a ≠ b := fun e => h (by
  subst e
  have h1 : w.heap[a]? = some (.cells cs S (0, 0)) := x
  have h2 : w.heap[a]? = some (.cells ds T (0, 0)) := y
  rw [h1] at h2
  injection h2 with h2
  injection h2 with _ h2)
/-- What Reach has met, in memory. -/
def RcM (w : World) (base hb hm hn bm n : Nat) (Ao : Option Addr) (no c : Nat) (N : List Int) : Prop :=
  (base ≤ hb ∧ base ≤ hm ∧ base ≤ hn ∧ base ≤ bm) ∧ Box w hb #[.slice Ao no c] 24 ∧ Box w hm #[.slice (some ⟨bm, 0, none⟩) n n] 48 ∧ MarkW w bm n N ∧ ∃ A k, Box w hn #[.slice A N.length k] 26 ∧ Ow w base 3 .i64 (.slice A N.length k) N
theorem RcM.below {w w' : World} {base hb hm hn bm n no c : Nat} {Ao : Option Addr} {N : List Int} (h : RcM w base hb hm hn bm n Ao no c N) (hl : Below w.heap.size w w') : RcM w' base hb hm hn bm n Ao no c N := by
  obtain ⟨h1, h2, h3, h4, A, k, h5, h6⟩ := h
  exact ⟨h1, h2.below hl, h3.below hl, Box.below h4 hl, A, k, h5.below hl, h6.below hl⟩
def comeS (n : Nat) (N : List Int) (z : Int) : List Int := if (1 ≤ z ∧ z ≤ n) ∧ z ∉ N then N ++ [z] else N
theorem comeL_take {n k : Nat} {N refs : List Int} {z : Int} (hz : refs[k]? = some z) : comeL n N (refs.take (k + 1)) = comeS n (comeL n N (refs.take k)) z := comeL_snoc hz
set_option maxHeartbeats 4000000 in
set_option maxRecDepth 100000 in
theorem hcome_any (base hb hm hn bm no c : Nat) (Ao : Option Addr) (N refs : List Int) (vr : Value) (w : World) (hs : RcM w base hb hm hn bm (no + 1) Ao no c N) (hx : IntsV w (· < base) vr refs) (hN : N.Nodup) (hR : ∀ z ∈ N, 1 ≤ z ∧ z ≤ no) (hno : no ≤ 10000) (hbase : base ≤ w.heap.size) :
    Calls Try.prog 28 #[vr, .pointer (some ⟨hb, 0, none⟩), .pointer (some ⟨hm, 0, none⟩), .pointer (some ⟨hn, 0, none⟩)] w fun e w' => e = .returned (.tuple #[]) ∧ RcM w' base hb hm hn bm (no + 1) Ao no c (comeL no N refs) ∧ Below base w w' := by
  have HX := hide (fun (W : World) (hW : Below base w W) => hx.keep (Same'.of_below hW) (fun _ h => h))
  have HTH := hide (fun (z : Int) W => hthere_any Ao no c z W)
  have HLEN := hide (fun k => (show (comeL no N (refs.take k)).length ≤ no from by
    obtain ⟨a1, a2, -, -⟩ := comeL_spec no (refs.take k) N hN hR
    exact nodup_le a1 a2))
  obtain ⟨i0, hi0, iz0, iz1, iz2⟩ := info_parts info_i64
  have HI := hide hi0
  have HS := hide hs
  obtain ⟨A, ca, rfl, hc, hmx⟩ := hx.open'
  obtain ⟨m, hm0⟩ : ∃ m, refs.length = m := ⟨_, rfl⟩
  have HM := hide hm0
  rw [hm0] at HX hc ⊢
  clear hs hx hN hR hi0 hm0
  go_enter Try.func28, Try.ntmps28
  go_wp2
  go_loopw [9] (fun i wr => ∃ k : Nat, k ≤ m ∧ i = .int .i64 k ∧ Hid (RcM wr base hb hm hn bm (no + 1) Ao no c (comeL no N (refs.take k))) ∧ Below base w wr) (fun i _ => m - (intOf i).toNat)
  case atStart => exact ⟨0, Nat.zero_le _, rfl, HS, Below.refl _ _⟩
  case round =>
    obtain ⟨k, hk, rfl, HR, hbel⟩ := hrel
    obtain ⟨wo, rfl⟩ : ∃ wo, wo = wr := ⟨_, rfl⟩
    have hszo := hbel.size
    have hbo : base ≤ wo.heap.size := by omega
    have HBEL := hide hbel
    clear hbel
    by_cases hlt : k < m
    case neg =>
      obtain rfl : k = m := by omega
      go_wp2
      go_end0
      exact ⟨rfl, by have h := HR.out; rwa [← HM.out, List.take_length] at h, HBEL.out⟩
    obtain ⟨y, hy⟩ : ∃ y, refs[k]? = some y := ⟨_, List.getElem?_eq_getElem (by have := HM.out; omega)⟩
    obtain ⟨br, or, hA, hbr, cy, hyR⟩ := (HX.out wo HBEL.out).get hy
    subst hA
    have HST := hide (comeL_take (n := no) (N := N) hy)
    have hlr : br < wo.heap.size := by omega
    have hl0 := HLEN.out k
    clear hy
    obtain ⟨L, hL⟩ : ∃ L, comeL no N (refs.take k) = L := ⟨_, rfl⟩
    rw [hL] at HR HST hl0
    obtain ⟨L', hL'⟩ : ∃ L', comeL no N (refs.take (k + 1)) = L' := ⟨_, rfl⟩
    have HL' := hide hL'
    rw [hL'] at HST
    have HH := hide HR.out.2.1
    have ch := (HH.out.cell 0 (v := .slice Ao no c) rfl).1
    have lh := HH.out.lt
    have HTY := hide (HTH.out y wo)
    clear hL hL'
    cases hth : thB no y with
    | false =>
      rw [hth] at HTY
      have HE := hide (show L' = L by
        rw [HST.out]
        unfold comeS
        rw [if_neg]
        rintro ⟨⟨h1, h2⟩, -⟩
        unfold thB at hth
        simp [h1, h2] at hth)
      clear hth
      go_wp2_with (go_at_call 29; (with_reducible refine (HTY.out).mono ?_); rintro e w2 ⟨rfl, hb2⟩; have HB2 := hide (HBEL.out.trans (hb2.mono hbo)); have HR2 := hide (HR.out.below hb2); clear hb2)
      go_roundw
      case rel => exact ⟨k + 1, by omega, by go_num, hide (by rw [HL'.out, HE.out]; exact HR2.out), HB2.out⟩
      case measure => simp [intOf]; omega
    | true =>
      rw [hth] at HTY
      have hy12 : 1 ≤ y ∧ y ≤ no := by simpa [thB] using hth
      clear hth
      obtain ⟨b, rfl⟩ : ∃ b : Nat, y = b := ⟨y.toNat, by omega⟩
      have hbn : b < no + 1 := by omega
      have j1 : (0 : Int) ≤ (b : Int) := by omega
      have j2 : (b : Int) < ((no + 1 : Nat) : Int) := by omega
      have j3 : (b : Int) < (no : Int) + 1 := by omega
      by_cases hin : (b : Int) ∈ L
      · have HE := hide (show L' = L by
          rw [HST.out]
          unfold comeS
          rw [if_neg (fun h => h.2 hin)])
        go_wp2_with (go_at_call 29; (with_reducible refine (HTY.out).mono ?_); rintro e w2 ⟨rfl, hb2⟩; have HB2 := hide (HBEL.out.trans (hb2.mono hbo)); have HR2 := hide (HR.out.below hb2); have cm := ((HR.out.below hb2).2.2.1.cell 0 (v := .slice (some ⟨bm, 0, none⟩) (no + 1) (no + 1)) rfl).1; have lm := (HR.out.below hb2).2.2.1.lt; obtain ⟨cg, fg⟩ := (HR.out.below hb2).2.2.2.1.cell hbn; rw [decide_eq_true hin] at cg; have lg := Box.lt (HR.out.below hb2).2.2.2.1; clear hb2)
        go_roundw
        case rel => exact ⟨k + 1, by omega, by go_num, hide (by rw [HL'.out, HE.out]; exact HR2.out), HB2.out⟩
        case measure => simp [intOf]; omega
      · have HE := hide (show L' = L ++ [(b : Int)] by
          rw [HST.out]
          unfold comeS
          rw [if_pos ⟨hy12, hin⟩])
        have hln := hl0
        go_upto_region 5 with (go_at_call 29; (with_reducible refine (HTY.out).mono ?_); rintro e w2 ⟨rfl, hb2⟩; have HB2 := hide (HBEL.out.trans (hb2.mono hbo)); have HR2 := hide (HR.out.below hb2); have cm := ((HR.out.below hb2).2.2.1.cell 0 (v := .slice (some ⟨bm, 0, none⟩) (no + 1) (no + 1)) rfl).1; have lm := (HR.out.below hb2).2.2.1.lt; obtain ⟨cg, fg⟩ := (HR.out.below hb2).2.2.2.1.cell hbn; rw [decide_eq_false hin] at cg; have lg := Box.lt (HR.out.below hb2).2.2.2.1; clear hb2)
        obtain ⟨hge, g1, g2, g3, A5, k5, g4, g5⟩ := HR2.out
        obtain ⟨nl, hnl⟩ : ∃ nl, L.length = nl := ⟨_, rfl⟩
        have HNL := hide hnl
        rw [hnl] at g4 g5 hln
        have ne1 := Box.neH g1 g3 (by decide)
        have ne2 := Box.neH g2 g3 (by decide)
        have ne3 := Box.neH g4 g3 (by decide)
        have ne4 := Box.neH g1 g4 (by decide)
        have ne5 := Box.neH g2 g4 (by decide)
        have a3 : (Value.slice A5 nl k5).ownBlock ≠ some bm := Ow.apart g5 g3 (by decide)
        obtain ⟨w3, hw3⟩ : ∃ w3, w3 = w2.setCell ⟨bm, b, none⟩ (.bool true) := ⟨_, rfl⟩
        have HO3 := hide (show Ow w3 base 3 .i64 (.slice A5 nl k5) L by rw [hw3]; exact Ow.kept' g5 (fun g hgv => heap_setCell_other _ ⟨bm, b, none⟩ g _ (fun e => a3 (by rw [hgv, e]))))
        have HM3 := hide (show MarkW w3 bm (no + 1) (L ++ [(b : Int)]) by rw [hw3]; exact g3.add hbn)
        have HG1 := hide (show Box w3 hb #[.slice Ao no c] 24 by rw [hw3]; exact Box.other (g := bm) (j := b) (v := .bool true) g1 ne1)
        have HG2 := hide (show Box w3 hm #[.slice (some ⟨bm, 0, none⟩) (no + 1) (no + 1)] 48 by rw [hw3]; exact Box.other (g := bm) (j := b) (v := .bool true) g2 ne2)
        have HG4 := hide (show Box w3 hn #[.slice A5 nl k5] 26 by rw [hw3]; exact Box.other (g := bm) (j := b) (v := .bool true) g4 ne3)
        have HB3 := hide (show Below base w w3 by rw [hw3]; exact HB2.out.setCell (p := ⟨bm, b, none⟩) (by show base ≤ bm; exact hge.2.2.2) _)
        have ca3 := (HG4.out.cell 0 (v := .slice A5 nl k5) rfl).1
        have la3 := HG4.out.lt
        have hb3 : base ≤ w3.heap.size := by have := HB3.out.size; omega
        have hro : nl < 1000000 := by omega
        have HRO := hide hro
        have HGE := hide hge
        rw [← hw3]
        clear hw3 g1 g2 g3 g4 g5 a3 hnl cm cg fg lm lg ch hro HR2
        go_wp2_with (at_builtin; refine wpList_append_atH w3 rfl (.tmp 26) (.tmp 28) _ rfl base i0 _ Try.underlying26 HI.out iz0 iz1 iz2 rfl (.slice A5 nl k5) L (by rfl) HO3.out (b : Int) (by rfl) (by rw [HNL.out]; exact HRO.out) hb3 ?_; intro v6 w6 ho6 hg6 hv6; obtain ⟨A6, k6, hw6, -⟩ := ho6.sl; subst hw6; have HO6 := hide ho6; have HGR := hide hg6; have q6 := HG4.out.alloc (.cells #[.int .i64 (b : Int)] 3); have hbx6 : Box w6 hn #[.slice A5 nl k5] 26 := ((hg6.block hn q6.lt (fun e => (Ow.apart HO3.out HG4.out (by decide)) e.symm)).trans q6); have HG6 := hide hbx6; have cb6 := (hbx6.cell 0 (v := .slice A5 nl k5) rfl).1; have fb6 := (hbx6.cell 0 (v := .slice A5 nl k5) rfl).2; have lb6 := hbx6.lt; clear hbx6 q6 ho6 hg6 hv6)
        go_roundw
        case rel =>
          refine ⟨k + 1, by omega, by go_num, hide ?_, ?_⟩
          · rw [HL'.out, HE.out]
            have p1 : Box w6 bm _ 4 := ((HGR.out.block bm (by have := Box.lt HM3.out; simp only [World.size_alloc]; omega) (fun e => (Ow.apart HO3.out HM3.out (by decide)) e.symm)).trans (Box.alloc HM3.out _))
            have p2 : Box w6 hm #[.slice (some ⟨bm, 0, none⟩) (no + 1) (no + 1)] 48 := (HGR.out.block hm (by have := HG2.out.lt; simp only [World.size_alloc]; omega) (fun e => (Ow.apart HO3.out HG2.out (by decide)) e.symm)).trans (HG2.out.alloc _)
            have p3 : Box w6 hb #[.slice Ao no c] 24 := (HGR.out.block hb (by have := HG1.out.lt; simp only [World.size_alloc]; omega) (fun e => (Ow.apart HO3.out HG1.out (by decide)) e.symm)).trans (HG1.out.alloc _)
            have p4 := Ow.apart HO6.out HG6.out (by decide)
            exact ⟨HGE.out, p3.other ne4, p2.other ne5, Box.other p1 (fun e => ne3 e.symm), A6, k6, by have := HG6.out.set 0 (.slice A6 (L ++ [(b : Int)]).length k6); simpa using this, Ow.kept' HO6.out (fun g hgv => heap_setCell_other _ ⟨hn, 0, none⟩ g _ (fun e => p4 (by rw [hgv, e])))⟩
          · exact (HB3.out.trans (((Below.refl _ _).alloc hb3 _).grown HGR.out (by simp only [World.size_alloc]; omega) (fun g hgv => (Ow.row' HO3.out g hgv).1))).setCell (p := ⟨hn, 0, none⟩) (by show base ≤ hn; exact HGE.out.2.2.1) _
        case measure => simp [intOf]; omega
end Go.Proofs.Ytjlndibeaklcdaa
