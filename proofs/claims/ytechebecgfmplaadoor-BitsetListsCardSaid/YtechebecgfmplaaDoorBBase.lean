/- The contracts of trim, slices.Clone, slices.Equal, reaches, bit, and of the reference's at and Neat. No condition. -/
import Derived.Test.YtechebecgfmplaaDoorMem
import Derived.Test.YtechebecgfmplaaDoorBWord
import Derived.Test.YtechebecgfmplaaDoorRows
import Derived.Test.YtechebecgfmplaaDoorProg
import Derived.BigQuiet
import Derived.Deep.QuietTactic
import Derived.WalkSpells
namespace Go.Proofs.YtechebecgfmplaaDoor
open Go.RowKit

theorem ret_slice {A : Option Addr} {n m c : Nat} (h : n = m) : Ending.returned (.slice A n c) = .returned (.slice A m c) := by rw [h]
def lenOf : Value → Nat | .slice _ n _ => n | _ => 0
theorem info_u64 : (Tryd.prog.info? 34).map (fun i => (i.zero, i.size, i.bytes)) = some (some (.int .u64 0), 1, 8) := by kernel_rfl

section
variable {w w' : World} {base : Nat} {e : TypeId} {k : IntKind} {zs : List Int}
/-- What the call owns, cell by cell. -/
theorem Ow.block {A : Option Addr} {n c : Nat} (h : Ow w base e k (.slice A n c) zs) (hp : 0 < zs.length) :
    ∃ g, A = some ⟨g, 0, none⟩ ∧ base ≤ g ∧ g < w.heap.size ∧ (∀ j x, zs[j]? = some x → w.cell? ⟨g, j, none⟩ = some (.int k x)) ∧ (∀ j, w.frozen? ⟨g, j, none⟩ = false) := by
  obtain ⟨h1, h2⟩ := h
  rcases h2 with ⟨h2, h0⟩ | ⟨g, cap, cur, hv, hg, hh, hnc, hcm, hsz, htake⟩
  · omega
  · injection hv with hA hn hc
    subst hA
    subst hn
    subst hc
    have hO : w.ownsRow base e 1 (.slice (some ⟨g, 0, none⟩) zs.length c) zs.length (zs.map (Value.int k)) := ⟨h1, .inr ⟨g, c, cur, rfl, hg, hh, hnc, hcm, hsz, htake⟩⟩
    refine ⟨g, rfl, hg, (Array.getElem?_eq_some_iff.1 hh).1, fun j x hx => ?_, fun j => World.ownsRow.frozenAt hO j⟩
    have hj : j < zs.length := (List.getElem?_eq_some_iff.1 hx).1
    rw [World.ownsRow.cellAt hO j (by omega), List.getElem?_map, hx]; rfl
theorem Ow.len {A : Option Addr} {n c : Nat} (h : Ow w base e k (.slice A n c) zs) : zs.length = n ∧ n ≤ c ∧ c ≤ maxLen := by
  rcases h.2 with ⟨h2, h0⟩ | ⟨g, cap, cur, hv, hg, hh, hnc, hcm, hsz, htake⟩
  · injection h2 with hA hn hc
    subst hn
    subst hc
    exact ⟨h0, Nat.le_refl _, by simp [maxLen]⟩
  · injection hv with hA hn hc
    subst hn
    subst hc
    exact ⟨rfl, hnc, hcm⟩
theorem Ow.stored {g n c : Nat} (h : Ow w base e k (.slice (some ⟨g, 0, none⟩) n c) zs) (j : Nat) (x : Int) :
    Ow (w.setCell ⟨g, j, none⟩ (.int k x)) base e k (.slice (some ⟨g, 0, none⟩) n c) (zs.set j x) := by
  obtain ⟨rfl, -, -⟩ := h.len
  have := (World.ownsRow.stored h j (.int k x)).1
  unfold Ow
  rw [List.map_set, List.length_set]
  exact this
end

set_option maxRecDepth 100000 in
theorem trim_any (A : Option Addr) (n c : Nat) (ws : List Nat) (w : World) (B : Nat) (hr : Sl w B .u64 A (nI ws)) (hn : ws.length = n) (hc : n ≤ c) (hmax : c ≤ 9223372036854775807) :
    Calls Tryd.prog 30 #[.slice A n c] w fun e w' => e = .returned (.slice A (neat ws).length c) ∧ w = w' := by
  have HL := hide (neat_len ws)
  rw [hn] at HL
  have HN := hide hn
  have HR := hide hr
  clear hn hr
  go_enter Tryd.func30, Tryd.ntmps30
  go_wp2
  go_loop [0] (fun s => ∃ k : Nat, k ≤ n ∧ s = .slice A k c ∧ Hid (nlen ws k = nlen ws n)) (fun s => lenOf s)
  case atStart => exact ⟨n, Nat.le_refl _, rfl, hide rfl⟩
  case round =>
    obtain ⟨k, hk, rfl, hl⟩ := hrel
    by_cases h0 : 0 < k
    · obtain ⟨j, rfl⟩ : ∃ j, k = j + 1 := ⟨k - 1, by omega⟩
      have hjl : j < ws.length := by have := HN.out; omega
      obtain ⟨b, o, rfl, -, hcell⟩ := HR.out (by rw [nI_len]; omega)
      obtain ⟨x, hx⟩ : ∃ x, ws[j]? = some x := ⟨_, List.getElem?_eq_getElem hjl⟩
      have hcx : w.cell? ⟨b, o + j, none⟩ = some (.int .u64 (x : Int)) := by rw [hcell j (by rw [nI_len]; exact hjl), nI_getD, getD_some hx]
      have HX := hide hx
      clear hcell hx hjl
      by_cases hx0 : x = 0
      · subst hx0
        have hz := hide (nlen_go HX.out)
        go_wp2
        go_round
        case rel => exact ⟨j, by omega, rfl, hide (by rw [← hl.out, hz.out])⟩
        case measure => simp [lenOf]
      · have hz := hide (nlen_stop HX.out hx0)
        have hxb : ((x : Int) == 0) = false := by simpa using hx0
        clear hx0
        go_wp2
        go_ret
        exact ⟨ret_slice (by rw [HL.out, ← hl.out, hz.out]), rfl⟩
    · have hk0 : k = 0 := by omega
      subst hk0
      go_wp2
      go_ret
      exact ⟨ret_slice (by rw [HL.out, ← hl.out]; rfl), rfl⟩

set_option maxRecDepth 100000 in
theorem clone_any (A : Option Addr) (n c : Nat) (ws : List Nat) (w : World) (B : Nat) (hr : Sl w B .u64 A (nI ws)) (hn : ws.length = n) (hB : B ≤ w.heap.size) (hmax : n ≤ 1099511627776) :
    Calls Tryd.prog 29 #[.slice A n c] w fun e w' => ∃ v, e = .returned v ∧ Ow w' w.heap.size 34 .u64 v (nI ws) ∧ Below w.heap.size w w' := by
  obtain ⟨i0, hi0, hz0, hz1, hz2⟩ := info_parts info_u64
  have HI := hide hi0
  have HN := hide hn
  have HR := hide hr
  clear hn hr hi0
  rcases A with _ | ad
  · have hz : ws = [] := by
      rcases ws with _ | ⟨x, xs⟩
      · rfl
      · obtain ⟨b, o, h, -⟩ := HR.out (by simp [nI])
        cases h
    have HZ := hide hz
    clear hz
    have q22 : ∀ (w : World) (a : Option Addr) (n c n' c' : Nat), (binOp .eql 22 (.slice a n c) (.slice none n' c')).run Tryd.prog w = .ok (.bool a.isNone) w := fun w a n c n' c' => Lib.run_eql_slice_nil w _ _ a n c n' c' Tryd.underlying22
    go_enter Tryd.func29, Tryd.ntmps29
    go_wp2
    go_ret
    exact ⟨_, rfl, by rw [HZ.out]; exact Ow.nil _ _ _ _, Below.refl _ _⟩
  · have ho0 : Ow (w.alloc (.cells #[] 34)) w.heap.size 34 .u64 (.slice (some ⟨w.heap.size, 0, none⟩) 0 0) [] := World.ownsRow_lit w #[] 0 (Nat.le_refl _) (by simp [maxLen]) (by simp)
    have HO := hide ho0
    clear ho0
    have q22 : ∀ (w : World) (a : Option Addr) (n c n' c' : Nat), (binOp .eql 22 (.slice a n c) (.slice none n' c')).run Tryd.prog w = .ok (.bool a.isNone) w := fun w a n c n' c' => Lib.run_eql_slice_nil w _ _ a n c n' c' Tryd.underlying22
    go_enter Tryd.func29, Tryd.ntmps29
    go_wp2_with (at_builtin; refine wpList_append_sl _ rfl (.tmp 5) (.tmp 6) _ rfl w.heap.size 34 .u64 i0 _ 8 Tryd.underlying22 HI.out hz0 hz1 hz2 rfl (by omega) (.slice (some ⟨w.heap.size, 0, none⟩) 0 0) [] rfl HO.out _ (some ad) n c (nI ws) rfl (by rw [nI_len]; exact HN.out) (HR.out.alloc hB _) (by simp; omega) (by simp) ?_; intro v1 w1 ho1 hb1)
    go_ret
    exact ⟨v1, rfl, by simpa using ho1, ((Below.refl _ _).alloc (Nat.le_refl _) _).trans hb1⟩

set_option maxRecDepth 100000 in
theorem equal_any (A B : Option Addr) (n m c d : Nat) (xs ys : List Nat) (w : World) (Bx By : Nat) (hx : Sl w Bx .u64 A (nI xs)) (hy : Sl w By .u64 B (nI ys)) (hn : xs.length = n) (hm : ys.length = m) (hmax : n ≤ 4611686018427387904) (hmax2 : m ≤ 4611686018427387904) :
    Calls Tryd.prog 33 #[.slice A n c, .slice B m d] w fun e w' => e = .returned (.bool (decide (xs = ys))) ∧ ∃ q, w' = w.drewN q := by
  by_cases hne : n = m
  · subst hne
    have HX := hide hx
    have HY := hide hy
    have HN := hide hn
    have HM := hide hm
    clear hx hy hn hm
    go_enter Tryd.func33, Tryd.ntmps33
    go_wp2
    go_loopw [13] (fun i wr => ∃ (k : Nat) (q : Nat), k ≤ n ∧ i = .int .i64 k ∧ Hid (xs.take k = ys.take k) ∧ wr = w.drewN q) (fun i _ => n - (intOf i).toNat)
    case atStart => exact ⟨0, 0, Nat.zero_le _, rfl, hide (by simp), rfl⟩
    case round =>
      obtain ⟨k, q, hk, rfl, he, rfl⟩ := hrel
      by_cases hlt : k < n
      · have hxl : k < xs.length := by have := HN.out; omega
        have hyl : k < ys.length := by have := HM.out; omega
        obtain ⟨b1, o1, rfl, -, hc1⟩ := HX.out (by rw [nI_len]; omega)
        obtain ⟨b2, o2, rfl, -, hc2⟩ := HY.out (by rw [nI_len]; omega)
        obtain ⟨x, hxx⟩ : ∃ x, xs[k]? = some x := ⟨_, List.getElem?_eq_getElem hxl⟩
        obtain ⟨y, hyy⟩ : ∃ y, ys[k]? = some y := ⟨_, List.getElem?_eq_getElem hyl⟩
        have g1 : w.cell? ⟨b1, o1 + k, none⟩ = some (.int .u64 (x : Int)) := by rw [hc1 k (by rw [nI_len]; exact hxl), nI_getD, getD_some hxx]
        have g2 : w.cell? ⟨b2, o2 + k, none⟩ = some (.int .u64 (y : Int)) := by rw [hc2 k (by rw [nI_len]; exact hyl), nI_getD, getD_some hyy]
        have H1 := hide hxx
        have H2 := hide hyy
        clear hc1 hc2 hxx hyy hxl hyl
        by_cases hxy : x = y
        · subst hxy
          have hb : ((x : Int) != (x : Int)) = false := by simp
          have ht := hide (show xs.take (k + 1) = ys.take (k + 1) by rw [List.take_add_one, List.take_add_one, he.out, H1.out, H2.out])
          go_wp2
          go_quiet (fail)
          go_wp2
          go_roundw
          case rel => exact ⟨k + 1, _, by omega, by go_num, ht, rfl⟩
          case measure => simp [intOf]; omega
        · have hb : ((x : Int) != (y : Int)) = true := by rw [bne_iff_ne]; omega
          have hd := hide (show xs ≠ ys by
            intro h
            rw [h] at H1
            have := H1.out.symm.trans H2.out
            injection this with this
            exact hxy this)
          clear hxy
          go_wp2
          go_quiet (fail)
          go_wp2
          go_ret
          exact ⟨ret_bool (by simpa using hd.out), _, by rw [World.drewN_drewN]⟩
      · have hd := hide (show xs = ys by
          have h := he.out
          rwa [List.take_of_length_le (by have := HN.out; omega), List.take_of_length_le (by have := HM.out; omega)] at h)
        go_wp2
        go_ret
        exact ⟨ret_bool (by simpa using hd.out), q, rfl⟩
  · have hd := hide (show xs ≠ ys by
      intro h
      rw [h] at hn
      omega)
    have hb : (((n : Nat) : Int) != ((m : Nat) : Int)) = true := by simp; omega
    clear hn hm hne
    go_enter Tryd.func33, Tryd.ntmps33
    go_wp2
    go_ret
    exact ⟨ret_bool (by simpa using hd.out), 0, rfl⟩

set_option maxRecDepth 100000 in
theorem at_any (A : Option Addr) (n c : Nat) (ws : List Nat) (k : Nat) (w : World) (B : Nat) (hr : Sl w B .u64 A (nI ws)) (hn : ws.length = n) (hmax : n ≤ 4611686018427387904) (hk : k ≤ 4611686018427387904) :
    Calls Tryd.prog 35 #[.slice A n c, .int .i64 (k : Int)] w fun e w' => e = .returned (.int .u64 ((ws.getD k 0 : Nat) : Int)) ∧ w = w' := by
  by_cases hlt : k < n
  · have hl : k < ws.length := by omega
    obtain ⟨b, o, rfl, -, hcell⟩ := hr (by rw [nI_len]; omega)
    have hcx : w.cell? ⟨b, o + k, none⟩ = some (.int .u64 ((ws.getD k 0 : Nat) : Int)) := by rw [hcell k (by rw [nI_len]; exact hl), nI_getD]
    generalize ws.getD k 0 = x at hcx
    clear hcell hr hn hl
    go_enter Tryd.func35, Tryd.ntmps35
    go_wp2
    go_ret
    exact ⟨rfl, rfl⟩
  · have hz : ws.getD k 0 = 0 := getD_none (by omega)
    rw [hz]
    clear hr hn hz
    go_enter Tryd.func35, Tryd.ntmps35
    go_wp2
    go_ret
    exact ⟨rfl, rfl⟩

set_option maxRecDepth 100000 in
theorem neat_any (A : Option Addr) (n c : Nat) (ws : List Nat) (w : World) (hr : Sl w w.heap.size .u64 A (nI ws)) (hn : ws.length = n) (hc : n ≤ c) (hmax : c ≤ 9223372036854775807) (hsmall : n ≤ 1099511627776) :
    Calls Tryd.prog 28 #[.slice A n c] w fun e w' => ∃ v, e = .returned v ∧ Ow w' w.heap.size 34 .u64 v (nI (neat ws)) ∧ Below w.heap.size w w' := by
  obtain ⟨i0, hi0, hz0, hz1, hz2⟩ := info_parts info_u64
  have HI := hide hi0
  have HL := hide (neat_len ws)
  rw [hn] at HL
  have HN := hide hn
  have HR := hide hr
  have ho0 : Ow (w.alloc (.cells #[] 34)) w.heap.size 34 .u64 (.slice (some ⟨w.heap.size, 0, none⟩) 0 0) [] := World.ownsRow_lit w #[] 0 (Nat.le_refl _) (by simp [maxLen]) (by simp)
  have HO := hide ho0
  clear hn hr hi0 ho0
  have hfin : ∀ k : Nat, nlen ws k = nlen ws n → nlen ws k = k → nI (ws.take k) = nI (neat ws) := fun k h1 h2 => by
    rw [neat, HN.out, ← h1, h2]
  have HF := hide hfin
  clear hfin
  go_enter Tryd.func28, Tryd.ntmps28
  go_wp2
  go_loop [3] (fun s => ∃ k : Nat, k ≤ n ∧ s = .int .i64 (k : Int) ∧ Hid (nlen ws k = nlen ws n)) (fun s => (intOf s).toNat)
  case atStart => exact ⟨n, Nat.le_refl _, rfl, hide rfl⟩
  case round =>
    obtain ⟨k, hk, rfl, hl⟩ := hrel
    by_cases h0 : 0 < k
    · obtain ⟨j, rfl⟩ : ∃ j, k = j + 1 := ⟨k - 1, by omega⟩
      have hjl : j < ws.length := by have := HN.out; omega
      obtain ⟨b, o, rfl, hbB, hcell⟩ := HR.out (by rw [nI_len]; omega)
      obtain ⟨x, hx⟩ : ∃ x, ws[j]? = some x := ⟨_, List.getElem?_eq_getElem hjl⟩
      have hcx : w.cell? ⟨b, o + j, none⟩ = some (.int .u64 (x : Int)) := by rw [hcell j (by rw [nI_len]; exact hjl), nI_getD, getD_some hx]
      have HX := hide hx
      clear hcell hx hjl
      by_cases hx0 : x = 0
      · subst hx0
        have hz := hide (nlen_go HX.out)
        go_wp2
        go_round
        case rel => exact ⟨j, by omega, by go_num, hide (by rw [← hl.out, hz.out])⟩
        case measure => simp [intOf]
      · have hz := hide (nlen_stop HX.out hx0)
        have hxb : ((x : Int) == 0) = false := by simpa using hx0
        have hlk : (nI (ws.take (j + 1))).length = j + 1 := by have := HN.out; rw [nI_len, List.length_take]; omega
        have HK := hide hlk
        clear hx0 hlk
        go_wp2_with (at_builtin; refine wpList_append_sl _ rfl (.tmp 18) (.tmp 21) _ rfl w.heap.size 34 .u64 i0 _ 8 Tryd.underlying22 HI.out hz0 hz1 hz2 rfl (by omega) (.slice (some ⟨w.heap.size, 0, none⟩) 0 0) [] rfl HO.out _ (some ⟨b, o, none⟩) (j + 1) c (nI (ws.take (j + 1))) rfl HK.out (by rw [nI_take]; exact (HR.out.alloc (Nat.le_refl _) _).take _) (by simp; omega) (by simp) ?_; intro v1 w1 ho1 hb1)
        go_ret
        exact ⟨v1, rfl, by rw [← HF.out _ hl.out hz.out]; simpa using ho1, ((Below.refl _ _).alloc (Nat.le_refl _) _).trans hb1⟩
    · have hk0 : k = 0 := by omega
      subst hk0
      go_wp2_with (at_builtin; refine wpList_append_sl _ rfl (.tmp 18) (.tmp 21) _ rfl w.heap.size 34 .u64 i0 _ 8 Tryd.underlying22 HI.out hz0 hz1 hz2 rfl (by omega) (.slice (some ⟨w.heap.size, 0, none⟩) 0 0) [] rfl HO.out _ A 0 c (nI (ws.take 0)) rfl rfl (by rw [nI_take]; exact (HR.out.alloc (Nat.le_refl _) _).take _) (by simp) (by simp) ?_; intro v1 w1 ho1 hb1)
      go_ret
      exact ⟨v1, rfl, by rw [← HF.out 0 hl.out rfl]; simpa using ho1, ((Below.refl _ _).alloc (Nat.le_refl _) _).trans hb1⟩
end Go.Proofs.YtechebecgfmplaaDoor
