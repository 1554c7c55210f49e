/- The contracts of reaches, bit, Count, Join, Less, Same, Holds. No condition. -/
import Derived.Test.YtechebecgfmplaaDoorBFold
import Derived.Test.YtechebecgfmplaaDoorBOnes
import Derived.Test.YtechebecgfmplaaDoorBNumW
import Derived.Deep.RegionWith
namespace Go.Proofs.YtechebecgfmplaaDoor
open Go.RowKit

theorem reaches_yes (A : Option Addr) (n c m : Nat) (w : World) (h : m / 64 < n) (hm : m ≤ 9223372036854775807) (hn : n ≤ 4611686018427387904) :
    Calls Tryd.prog 22 #[.slice A n c, .int .i64 (m : Int)] w fun e w' => e = .returned (.bool true) ∧ w = w' := by
  have hq2 : decide ((m : Int) / 64 < (n : Int)) = true := by simp; omega
  go_enter Tryd.func22, Tryd.ntmps22
  go_wp2
  go_ret
  exact ⟨rfl, rfl⟩
theorem reaches_no (A : Option Addr) (n c : Nat) (m : Int) (w : World) (h : m < 0 ∨ (n : Int) ≤ m / 64) (hm : -9223372036854775808 ≤ m ∧ m ≤ 9223372036854775807) (hn : n ≤ 4611686018427387904) :
    Calls Tryd.prog 22 #[.slice A n c, .int .i64 m] w fun e w' => e = .returned (.bool false) ∧ w = w' := by
  by_cases h0 : m < 0
  · clear h
    go_enter Tryd.func22, Tryd.ntmps22
    go_wp2
    go_ret
    exact ⟨rfl, rfl⟩
  · have hq2 : decide (m / 64 < (n : Int)) = false := by simp; omega
    clear h
    go_enter Tryd.func22, Tryd.ntmps22
    go_wp2
    go_ret
    exact ⟨rfl, rfl⟩
theorem pow_word (k : Nat) (h : k < 64) : IntKind.u64.wrap ((2 : Int) ^ k) = ((2 ^ k : Nat) : Int) := by
  have e : ((2 : Int) ^ k) = ((2 ^ k : Nat) : Int) := by simp
  rw [e, wrap_in (pow_lt h)]
theorem bit_any (m : Nat) (w : World) (hm : m ≤ 9223372036854775807) :
    Calls Tryd.prog 23 #[.int .i64 (m : Int)] w fun e w' => e = .returned (.int .u64 ((2 ^ (m % 64) : Nat) : Int)) ∧ w = w' := by
  have H := hide (pow_word (m % 64) (Nat.mod_lt _ (by omega)))
  go_enter Tryd.func23, Tryd.ntmps23
  go_wp2
  go_ret
  exact ⟨ret_int H.out, rfl⟩

set_option maxRecDepth 100000 in
theorem count_any (A : Option Addr) (n c : Nat) (ws : List Nat) (w : World) (B : Nat) (hr : Sl w B .u64 A (nI ws)) (hn : ws.length = n) (hmax : n ≤ 1099511627776) (hw : W64 ws) :
    Calls Tryd.prog 19 #[.slice A n c] w fun e w' => e = .returned (.int .i64 ((cnt ws : Nat) : Int)) ∧ w = w' := by
  have HN := hide hn
  have HR := hide hr
  have HW := hide hw
  have HC := hide (show cnt ws = cntF (fun i => pop (ws.getD i 0)) n by rw [cnt, hn])
  clear hr hn hw
  go_enter Tryd.func19, Tryd.ntmps19
  go_wp2
  go_loop [3, 8] (fun s i => ∃ (k C : Nat), k ≤ n ∧ i = .int .i64 (k : Int) ∧ s = .int .i64 (C : Int) ∧ Hid (C = cntF (fun i => pop (ws.getD i 0)) k)) (fun _ i => n - (intOf i).toNat)
  case atStart => exact ⟨0, 0, Nat.zero_le _, rfl, rfl, hide rfl⟩
  case round =>
    obtain ⟨k, C, hk, rfl, rfl, hc⟩ := hrel
    have hle : C ≤ 64 * k := by rw [hc.out]; exact cnt_part_le ws k
    by_cases hlt : k < n
    · have hkl : k < ws.length := by have := HN.out; omega
      obtain ⟨b, o, rfl, -, hcell⟩ := HR.out (by rw [nI_len]; omega)
      have hx := HW.out.getD k
      have g1 : w.cell? ⟨b, o + k, none⟩ = some (.int .u64 ((ws.getD k 0 : Nat) : Int)) := by rw [hcell k (by rw [nI_len]; exact hkl), nI_getD]
      have hsn := hide (show C + pop (ws.getD k 0) = cntF (fun i => pop (ws.getD i 0)) (k + 1) by rw [hc.out]; rfl)
      have hp := pop_le (ws.getD k 0)
      clear hcell hkl
      generalize ws.getD k 0 = x at *
      go_wp2_with (go_at_call 32; refine (ones_any x _ hx).mono ?_; rintro e w' ⟨rfl, rfl⟩)
      go_round
      case rel => exact ⟨k + 1, C + pop x, by omega, by go_num, by go_num, hsn⟩
      case measure => simp [intOf]; omega
    · have hkn : n = k := by omega
      have hfin := hide (show C = cnt ws by rw [hc.out, HC.out, hkn])
      clear hkn
      go_wp2
      go_ret
      exact ⟨ret_int (by rw [hfin.out]), rfl⟩

/-- What a call answers: a set in memory. -/
def Made (W : World) (r : List Nat) (e : Ending) (w' : World) : Prop := ∃ A c, e = .returned (.slice A r.length c) ∧ r.length ≤ c ∧ c ≤ 9223372036854775807 ∧ Sl w' w'.heap.size .u64 A (nI r) ∧ Below W.heap.size W w'
theorem Ow.trimmed {w : World} {base : Nat} {e : TypeId} {A : Option Addr} {n c : Nat} {ws : List Nat} (h : Ow w base e .u64 (.slice A n c) (nI ws)) : ws.length = n ∧ n ≤ c ∧ c ≤ 9223372036854775807 ∧ Sl w w.heap.size .u64 A (nI ws) ∧ Sl w w.heap.size .u64 A (nI (neat ws)) := by
  obtain ⟨h1, h2, h3⟩ := h.len
  rw [nI_len] at h1
  simp only [maxLen] at h3
  obtain ⟨A', c', hv, -, -, hs⟩ := h.sl
  injection hv with hA _ _
  subst hA
  exact ⟨h1, h2, by omega, hs, by rw [neat, nI_take]; exact hs.take _⟩

set_option maxRecDepth 100000 in
theorem less_any (A T : Option Addr) (n c m d : Nat) (xs ys : List Nat) (w : World) (hx : Sl w w.heap.size .u64 A (nI xs)) (hy : Sl w w.heap.size .u64 T (nI ys)) (hn : xs.length = n) (hm : ys.length = m) (hmd : m ≤ d) (hd : d ≤ 9223372036854775807) (hmax : n ≤ 1099511627776) (wx : W64 xs) (wy : W64 ys) :
    Calls Tryd.prog 34 #[.slice A n c, .slice T m d] w (Made w (lessL xs ys)) := by
  have HX := hide hx
  have HY := hide hy
  have HN := hide hn
  have HM := hide hm
  have WX := hide wx
  have WY := hide wy
  have HF := hide (less_walk (b := ys) wx)
  rw [hn, hm] at HF
  clear hx hy hn hm wx wy
  go_enter Tryd.func34, Tryd.ntmps34
  go_wp2_with (first
    | (go_at_call 29; refine (clone_any A n c xs w _ HX.out HN.out (Nat.le_refl _) hmax).mono ?_; rintro e w1 ⟨v1, rfl, ho1, hb1⟩; obtain ⟨A1, c1, rfl, -, -, -⟩ := ho1.sl; have HO1 := hide ho1; have HL1 := hide ho1.len.1; clear ho1)
    | (go_at_call 36; refine (fold_less A1 T _ c1 m d xs ys w1 w.heap.size HO1.out (HY.out.below hb1) HM.out hmd hd (by rw [nI_len, HN.out]; omega) WX.out WY.out).mono ?_; rw [nI_len, HN.out]; rintro e w2 ⟨rfl, ho2, hb2⟩; have HO2 := hide ho2; clear ho2; have hc2 := hb1.trans hb2)
    | (go_at_call 30; refine (trim_any A1 _ c1 _ w2 _ HO2.out.trimmed.2.2.2.1 HO2.out.trimmed.1 HO2.out.trimmed.2.1 HO2.out.trimmed.2.2.1).mono ?_; rw [HF.out]; rintro e w' ⟨rfl, rfl⟩))
  go_ret
  have h := HO2.out.trimmed
  rw [HF.out] at h
  have hl : (lessL xs ys).length ≤ n := by
    have := neat_le (foldW andN xs ys (min n m))
    rw [HF.out, foldW_len, HN.out] at this; exact this
  exact ⟨A1, c1, rfl, by have := h.2.1; omega, h.2.2.1, h.2.2.2.2, hc2⟩

set_option maxRecDepth 100000 in
theorem same_any (A T : Option Addr) (n c m d : Nat) (xs ys : List Nat) (w : World) (Bx By : Nat) (hx : Sl w Bx .u64 A (nI xs)) (hy : Sl w By .u64 T (nI ys)) (hn : xs.length = n) (hm : ys.length = m) (hc : n ≤ c) (hc2 : c ≤ 9223372036854775807) (hmd : m ≤ d) (hd : d ≤ 9223372036854775807) (hmax : n ≤ 1099511627776) (hmax2 : m ≤ 1099511627776) :
    Calls Tryd.prog 20 #[.slice A n c, .slice T m d] w fun e w' => e = .returned (.bool (decide (neat xs = neat ys))) ∧ ∃ q, w' = w.drewN q := by
  have HX := hide hx
  have HY := hide hy
  have HN := hide hn
  have HM := hide hm
  have hlx := neat_le xs
  have hly := neat_le ys
  rw [hn] at hlx
  rw [hm] at hly
  clear hx hy hn hm
  go_enter Tryd.func20, Tryd.ntmps20
  go_wp2_with (first
    | (go_at_call_of 30 A; refine (trim_any A n c xs w _ HX.out HN.out hc hc2).mono ?_; rintro e w' ⟨rfl, rfl⟩)
    | (go_at_call_of 30 T; refine (trim_any T m d ys w _ HY.out HM.out hmd hd).mono ?_; rintro e w' ⟨rfl, rfl⟩)
    | (go_at_call 33; refine (equal_any A T _ _ c d (neat xs) (neat ys) w _ _ (by rw [neat, nI_take]; exact HX.out.take _) (by rw [neat, nI_take]; exact HY.out.take _) rfl rfl (by omega) (by omega)).mono ?_; rintro e w' ⟨rfl, q, rfl⟩))
  go_ret
  exact ⟨rfl, q, rfl⟩

set_option maxRecDepth 100000 in
theorem holds_any (A T : Option Addr) (n c m d : Nat) (xs ys : List Nat) (w : World) (hx : Sl w w.heap.size .u64 A (nI xs)) (hy : Sl w w.heap.size .u64 T (nI ys)) (hn : xs.length = n) (hm : ys.length = m) (hc : n ≤ c) (hc2 : c ≤ 9223372036854775807) (hmax : m ≤ 1099511627776) (wx : W64 xs) (wy : W64 ys) :
    Calls Tryd.prog 21 #[.slice A n c, .slice T m d] w fun e w' => e = .returned (.bool (decide ((lessL ys xs).length = 0))) ∧ Below w.heap.size w w' := by
  have H := hide (less_any T A m d n c ys xs w hy hx hm hn hc hc2 hmax wy wx)
  clear hx hy hn hm wx wy
  generalize lessL ys xs = r at *
  go_enter Tryd.func21, Tryd.ntmps21
  go_wp2_with (go_at_call 34; refine H.out.mono ?_; rintro e w1 ⟨A1, c1, rfl, -, -, -, hb1⟩)
  go_ret
  exact ⟨ret_bool (by rw [Bool.eq_iff_iff]; simp), hb1⟩

/-- A slice of sets in memory: of each its address, its room, its words. -/
def Sls (w : World) (B : Nat) (L : Option Addr) (ls : List (Option Addr × Nat × List Nat)) : Prop :=
  0 < ls.length → ∃ b o, L = some ⟨b, o, none⟩ ∧ b < B ∧ ∀ (j : Nat) (t : Option Addr × Nat × List Nat), ls[j]? = some t → w.cell? ⟨b, o + j, none⟩ = some (.slice t.1 t.2.2.length t.2.1)
def Good (w : World) (B : Nat) (t : Option Addr × Nat × List Nat) : Prop := Sl w B .u64 t.1 (nI t.2.2) ∧ W64 t.2.2 ∧ t.2.2.length ≤ t.2.1 ∧ t.2.1 ≤ 9223372036854775807
def wordsOf (ls : List (Option Addr × Nat × List Nat)) : List (List Nat) := ls.map fun t => t.2.2

theorem take_snoc {α : Type} {l : List α} {k : Nat} {t : α} (h : l[k]? = some t) : l.take (k + 1) = l.take k ++ [t] := by
  rw [List.take_add_one, h]; rfl
theorem maxLenL_take {ls : List (List Nat)} (k : Nat) : maxLenL (ls.take k) ≤ maxLenL ls := by
  suffices h : ∀ (ms : List (List Nat)) (b : Nat), (∀ l ∈ ms, l.length ≤ b) → maxLenL ms ≤ b from h _ _ fun l hl => maxLenL_ge (List.mem_of_mem_take hl)
  intro ms b
  suffices h : ∀ (ms : List (List Nat)) (x : Nat), x ≤ b → (∀ l ∈ ms, l.length ≤ b) → ms.foldl (fun m l => max m l.length) x ≤ b from fun hl => h ms 0 (by omega) hl
  intro ms
  induction ms with
  | nil => intro x hx _; exact hx
  | cons l ms ih =>
    intro x hx hl
    rw [List.foldl_cons]
    have := hl l (List.mem_cons_self ..)
    exact ih _ (by omega) fun m hm => hl m (List.mem_cons_of_mem _ hm)
theorem madeZeros (M : Nat) : (madeCells (Value.int IntKind.u64 0).cells (M * 1)).toList = (nI (joinTo M [])).map (Value.int .u64) := by
  rw [Nat.mul_one, joinTo_nil]
  show (madeCells #[Value.int .u64 0] M).toList = _
  rw [toList_madeCells_one]
  simp [nI]

set_option maxRecDepth 100000 in
theorem join_any (L : Option Addr) (m c : Nat) (ls : List (Option Addr × Nat × List Nat)) (w : World) (hl : Sls w w.heap.size L ls) (hg : ∀ t ∈ ls, Good w w.heap.size t) (hm : ls.length = m) (hmax : m ≤ 1099511627776) (hlen : maxLenL (wordsOf ls) ≤ 1099511627776) :
    Calls Tryd.prog 25 #[.slice L m c] w (Made w (joinL (wordsOf ls))) := by
  obtain ⟨i0, hi0, hz0, hz1, hz2⟩ := info_parts info_u64
  have HI := hide hi0
  have HL := hide hl
  have HG := hide hg
  have HM := hide hm
  clear hl hg hm hi0
  go_enter Tryd.func25, Tryd.ntmps25
  go_wp2
  go_loop [3, 11] (fun s i => ∃ (k C : Nat), k ≤ m ∧ i = .int .i64 (k : Int) ∧ s = .int .i64 (C : Int) ∧ C ≤ 1099511627776 ∧ Hid (C = maxLenL (wordsOf (ls.take k)))) (fun _ i => m - (intOf i).toNat)
  case atStart => exact ⟨0, 0, Nat.zero_le _, rfl, rfl, by omega, hide rfl⟩
  case round =>
    obtain ⟨k, C, hk, rfl, rfl, hC, hc⟩ := hrel
    by_cases hlt : k < m
    · have hkl : k < ls.length := by have := HM.out; omega
      obtain ⟨b, o, rfl, -, hcell⟩ := HL.out (by omega)
      obtain ⟨⟨T, d, ys⟩, ht⟩ : ∃ t, ls[k]? = some t := ⟨_, List.getElem?_eq_getElem hkl⟩
      have g1 := hcell k _ ht
      have hsn := hide (show max C ys.length = maxLenL (wordsOf (ls.take (k + 1))) by rw [hc.out, take_snoc ht, wordsOf, wordsOf, List.map_append, List.map_cons, List.map_nil, maxLenL_snoc])
      have hle : max C ys.length ≤ 1099511627776 := by
        rw [hsn.out]
        refine Nat.le_trans ?_ hlen
        rw [wordsOf, List.map_take]
        exact maxLenL_take _
      simp only at g1
      clear hcell hkl ht
      by_cases hmx : C < ys.length
      · have hx : max C ys.length = ys.length := by omega
        rw [hx] at hsn hle
        clear hx
        go_wp2
        go_round
        case rel => exact ⟨k + 1, ys.length, by omega, by go_num, rfl, hle, hsn⟩
        case measure => simp [intOf]; omega
      · have hx : max C ys.length = C := by omega
        rw [hx] at hsn hle
        clear hx
        go_wp2
        go_round
        case rel => exact ⟨k + 1, C, by omega, by go_num, rfl, hle, hsn⟩
        case measure => simp [intOf]; omega
    · have hkm : k = m := by omega
      have hCM := hide (show C = maxLenL (wordsOf ls) by rw [hc.out, List.take_of_length_le (by have := HM.out; omega)])
      clear hc hkm
      obtain ⟨cs, hcs, hmk⟩ : ∃ cs : Array Value, cs.toList = (nI (joinTo C [])).map (Value.int .u64) ∧ ∀ W : World, (Instr.makeSlice 22 (.int .i64 (C : Int)) (.int .i64 (C : Int))).run Tryd.prog W = .ok (.slice (some ⟨W.heap.size, 0, none⟩) C C) (W.alloc (.cells cs 34)) :=
        ⟨madeCells (Value.int IntKind.u64 0).cells (C * 1), madeZeros C, fun W => by
          have h := run_make (P := Tryd.prog) W 22 34 i0 _ Tryd.underlying22 HI.out hz0 .i64 .i64 (C : Int) (C : Int) (by omega) (by omega) (by rw [hz2]; omega) (by omega)
          rw [hz1, Int.toNat_natCast] at h
          exact h⟩
      have hcsz : cs.size = C * 1 := by
        have := congrArg List.length hcs
        simpa [nI, joinTo, mapR_len] using this
      have ho0 : Ow (w.alloc (.cells cs 34)) w.heap.size 34 .u64 (.slice (some ⟨w.heap.size, 0, none⟩) C C) (nI (joinTo C [])) := by
        have h := World.ownsRow_lit (base := w.heap.size) (e := 34) (size := 1) w cs C (Nat.le_refl _) (by simp only [maxLen]; omega) hcsz
        rw [hcs] at h
        unfold Ow
        rw [nI_len, joinTo, mapR_len]
        exact h
      have HO0 := hide ho0
      clear ho0 hcs hcsz
      go_wp2
      go_loopw [24] (fun i wr => ∃ k : Nat, k ≤ m ∧ i = .int .i64 (k : Int) ∧ Ow wr w.heap.size 34 .u64 (.slice (some ⟨w.heap.size, 0, none⟩) C C) (nI (joinTo C (wordsOf (ls.take k)))) ∧ Below w.heap.size w wr) (fun i _ => m - (intOf i).toNat)
      case atStart => exact ⟨0, Nat.zero_le _, rfl, HO0.out, (Below.refl _ _).alloc (Nat.le_refl _) _⟩
      case round =>
        obtain ⟨k, hk, rfl, hok, hbk⟩ := hrel
        clear hmk
        have HOK := hide hok
        clear hok
        by_cases hlt : k < m
        · have hkl : k < ls.length := by have := HM.out; omega
          obtain ⟨b, o, rfl, hbB, hcell⟩ := HL.out (by omega)
          obtain ⟨⟨T, d, ys⟩, ht⟩ : ∃ t, ls[k]? = some t := ⟨_, List.getElem?_eq_getElem hkl⟩
          have g1 := hcell k _ ht
          have hgd := HG.out _ (List.mem_of_getElem? ht)
          simp only at g1
          have g2 : wr.cell? ⟨b, o + k, none⟩ = some (.slice T ys.length d) := by rw [hbk.cell hbB, g1]
          have hyl : ys.length ≤ C := by rw [hCM.out]; exact maxLenL_ge (List.mem_map.2 ⟨_, List.mem_of_getElem? ht, rfl⟩)
          have hsn := hide (show foldW (· ||| ·) (joinTo C (wordsOf (ls.take k))) ys (min C ys.length) = joinTo C (wordsOf (ls.take (k + 1))) by
            rw [joinTo_step hyl, take_snoc ht, wordsOf, wordsOf, List.map_append, List.map_cons, List.map_nil])
          have hw64 := hide (show W64 (joinTo C (wordsOf (ls.take k))) from W64.of_getD fun i => by
            rw [joinTo, mapR_getD]
            split
            · exact orAll_lt _ _ fun l hl => by
                obtain ⟨t, ht', rfl⟩ := List.mem_map.1 hl
                exact (HG.out t (List.mem_of_mem_take ht')).2.1
            · omega)
          have HGD := hide hgd
          have hd1 : ys.length ≤ d := hgd.2.2.1
          have hd2 : d ≤ 9223372036854775807 := hgd.2.2.2
          clear hcell hkl ht g1 hgd
          generalize joinTo C (wordsOf (ls.take k)) = js at *
          go_wp2_with (go_at_call 36; refine (fold_or (some ⟨w.heap.size, 0, none⟩) T C C ys.length d js ys wr w.heap.size HOK.out (HGD.out.1.below hbk) rfl hd1 hd2 (by omega) hw64.out HGD.out.2.1).mono ?_; rw [hsn.out]; rintro e w2 ⟨rfl, ho2, hb2⟩)
          go_roundw
          case rel => exact ⟨k + 1, by omega, by go_num, ho2, hbk.trans hb2⟩
          case measure => simp [intOf]; omega
        · have hfin := hide (show joinTo C (wordsOf (ls.take k)) = joinTo C (wordsOf ls) by rw [List.take_of_length_le (by have := HM.out; omega)])
          have hneat := hide (show neat (joinTo C (wordsOf ls)) = joinL (wordsOf ls) by rw [hCM.out]; rfl)
          have HOK2 := hide (hfin.out ▸ HOK.out)
          clear HOK
          go_wp2_with (go_at_call 30; refine (trim_any _ C C _ wr _ HOK2.out.trimmed.2.2.2.1 HOK2.out.trimmed.1 (Nat.le_refl _) (by omega)).mono ?_; rw [hneat.out]; rintro e w' ⟨rfl, rfl⟩)
          go_ret
          have h := HOK2.out.trimmed
          rw [hneat.out] at h
          exact ⟨_, C, rfl, by rw [← hneat.out]; have := neat_le (joinTo C (wordsOf ls)); rwa [joinTo, mapR_len] at this, by omega, h.2.2.2.2, hbk⟩
end Go.Proofs.YtechebecgfmplaaDoor
