/- The contract of the reference's Without. No condition. -/
import Derived.Test.YtechebecgfmplaaDoorBRefE
import Derived.StillTailTactics
namespace Go.Proofs.YtechebecgfmplaaDoor
open Go.RowKit

theorem sub_spell {x p : Nat} (h : p ≤ x) (hx : x < 18446744073709551616) : IntKind.u64.wrap ((x : Int) - (p : Int)) = ((x - p : Nat) : Int) := by
  rw [IntKind.wrap_u64]; omega
set_option maxRecDepth 100000 in
set_option maxHeartbeats 1000000 in
theorem rwithout_any (A T : Option Addr) (n c m d : Nat) (ws : List Nat) (l : List Int) (w : World) (hx : Sl w w.heap.size .u64 A (nI ws)) (hn : ws.length = n) (hmax : n ≤ 1000000) (hw : W64 ws) (hr : Sl w w.heap.size .i64 T l) (hm : l.length = m) (hmax2 : m ≤ 1099511627776) (hl : ∀ z ∈ l, -9223372036854775808 ≤ z ∧ z ≤ 9223372036854775807) :
    Calls Tryd.prog 16 #[.slice A n c, .slice T m d] w (Made w (withoutL ws l)) := by
  obtain ⟨i0, hi0, hz0, hz1, hz2⟩ := info_parts info_u64
  have HI := hide hi0
  have HX := hide hx
  have HN := hide hn
  have HW := hide hw
  have HM := hide hm
  have HR := hide hr
  have HL := hide hl
  have ho0 : Ow (w.alloc (.cells #[] 34)) w.heap.size 34 .u64 (.slice (some ⟨w.heap.size, 0, none⟩) 0 0) [] := World.ownsRow_lit w #[] 0 (Nat.le_refl _) (by simp [maxLen]) (by simp)
  have HO := hide ho0
  clear hn hr hl hx hm hw ho0 hi0
  go_enter Tryd.func16, Tryd.ntmps16
  go_wp2_with (at_builtin; refine wpList_append_sl _ rfl (.tmp 7) (.tmp 8) _ rfl w.heap.size 34 .u64 i0 _ 8 Tryd.underlying22 HI.out hz0 hz1 hz2 rfl (by omega) (.slice (some ⟨w.heap.size, 0, none⟩) 0 0) [] rfl HO.out _ A n c (nI ws) rfl (by rw [nI_len]; exact HN.out) (HX.out.alloc (Nat.le_refl _) _) (by simp; omega) (by simp) ?_; rw [List.nil_append]; intro v1 w1 ho1 hb1)
  have hB1 := ((Below.refl w.heap.size w).alloc (Nat.le_refl _) (.cells #[] 34)).trans hb1
  obtain ⟨A1, c1, hv1, -, -, -⟩ := ho1.sl
  rw [nI_len, HN.out] at hv1
  subst hv1
  have HO1 := hide ho1
  clear ho1
  go_loopw [6] (fun i wr => ∃ k : Nat, k ≤ m ∧ i = .int .i64 (k : Int) ∧ Ow wr w.heap.size 34 .u64 (.slice A1 n c1) (nI (remsL ws (l.take k))) ∧ Below w.heap.size w wr) (fun i _ => m - (intOf i).toNat)
  case atStart => exact ⟨0, Nat.zero_le _, rfl, HO1.out, hB1⟩
  case round =>
    clear hb1 hB1 HO1
    obtain ⟨k, hk, rfl, ho, hb⟩ := hrel
    have HO := hide ho
    clear ho
    have hsl := hide (show (remsL ws (l.take k)).length = n by rw [remsL_len, HN.out])
    have hsw := hide (show W64 (remsL ws (l.take k)) from remsL_w64 HW.out _)
    by_cases hlt : k < m
    · have hkl : k < l.length := by have := HM.out; omega
      obtain ⟨b, o, rfl, hbB, hcell⟩ := HR.out (by omega)
      obtain ⟨z, hz⟩ : ∃ z, l[k]? = some z := ⟨_, List.getElem?_eq_getElem hkl⟩
      have g1 : wr.cell? ⟨b, o + k, none⟩ = some (.int .i64 z) := by rw [hb.cell hbB, hcell k hkl]; simp [List.getD, hz]
      have hzb := HL.out z (List.mem_of_getElem? hz)
      have hsn := hide (show remsL ws (l.take (k + 1)) = remI (remsL ws (l.take k)) z by rw [List.take_add_one, hz, Option.toList_some, remsL_snoc])
      clear hcell hkl hz
      generalize remsL ws (l.take k) = s at *
      by_cases hv : hasB s z = true
      · obtain ⟨q, rfl⟩ : ∃ q : Nat, z = q := ⟨z.toNat, by
          unfold hasB at hv; simp at hv; omega⟩
        obtain ⟨hrem, hql, hge⟩ := remI_yes hsw.out hv
        have HREM := hide hrem
        have HV := hide hv
        have hyes : q / 64 < n := by have := hsl.out; omega
        have hget := hide (show (nI s)[q / 64]? = some ((s.getD (q / 64) 0 : Nat) : Int) by rw [nI, List.getElem?_map, get_some hql]; rfl)
        have hxw := hsw.out.getD (q / 64)
        have hpw := hide (pow_word (q % 64) (Nat.mod_lt _ (by omega)))
        have hpl := pow_lt (Nat.mod_lt q (show 64 > 0 by omega))
        obtain ⟨g, rfl, hg1, hg2, hcell2, hfrz⟩ := HO.out.block (by rw [nI_len]; omega)
        have q1 : wr.cell? ⟨g, q / 64, none⟩ = some (.int .u64 ((s.getD (q / 64) 0 : Nat) : Int)) := hcell2 _ _ hget.out
        have q2 : wr.frozen? ⟨g, q / 64, none⟩ = false := hfrz _
        have hfin := hide (show ∀ u : Int, u = ((s.getD (q / 64) 0 - 2 ^ (q % 64) : Nat) : Int) → Ow (wr.setCell ⟨g, q / 64, none⟩ (.int .u64 u)) w.heap.size 34 .u64 (.slice (some ⟨g, 0, none⟩) n c1) (nI (remI s (q : Int))) ∧ Below w.heap.size w (wr.setCell ⟨g, q / 64, none⟩ (.int .u64 u)) from fun u hu => by
          have hst := HO.out.stored (q / 64) u
          rw [hu, ← nI_set, ← HREM.out, ← hu] at hst
          exact ⟨hst, hb.setCell (p := ⟨g, q / 64, none⟩) hg1 (.int .u64 u)⟩)
        have hsub := hide (hfin.out _ (show IntKind.u64.wrap (((s.getD (q / 64) 0 : Nat) : Int) - IntKind.u64.wrap ((2 : Int) ^ (q % 64))) = ((s.getD (q / 64) 0 - 2 ^ (q % 64) : Nat) : Int) by
          rw [hpw.out]; exact sub_spell hge hxw))
        have i1 : (0 : Int) ≤ (q : Int) / 64 := by omega
        have i2 : (q : Int) / 64 < (n : Int) := by omega
        clear hcell2 hfrz hget hql hv hge hrem
        generalize s.getD (q / 64) 0 = x at *
        go_wp2_with (go_at_call 8; refine (rhas_any _ n c1 s (q : Int) wr _ HO.out.trimmed.2.2.2.1 HO.out.trimmed.1 (by omega) hsw.out hzb).mono ?_; rw [HV.out]; rintro e w' ⟨rfl, rfl⟩)
        have e1 : (q : Int).tdiv 64 = (q : Int) / 64 := Int.tdiv_eq_ediv_of_nonneg (by omega)
        have e2 : ((q : Int) / 64).toNat = q / 64 := by omega
        have e3 : IntKind.i64.wrap ((q : Int) / 64) = (q : Int) / 64 := IntWalk.i64_in _ ⟨by omega, by omega⟩
        have e4 : (q : Int).tmod 64 = (q : Int) % 64 := Int.tmod_eq_emod_of_nonneg (by omega)
        have e5 : IntKind.u64.wrap ((q : Int) % 64) = (q : Int) % 64 := by rw [IntKind.wrap_u64]; omega
        have e6 : ((q : Int) % 64).toNat = q % 64 := by omega
        have e7 : (0 : Int) ≤ (q : Int) % 64 := by omega
        have e8 : (q : Int) % 64 ≤ 64 := by omega
        go_still_tail 23, (by kernel_rfl)
        change wpList _ _ _ _ _ wr.drew
        clear e1 e2 e3 e4 e5 e6 e7 e8
        go_wp2
        go_roundw
        case rel => exact ⟨k + 1, by omega, by go_num, by rw [hsn.out]; exact hsub.out.1, hsub.out.2.drew⟩
        case measure => simp [intOf]; omega
      · have hv' : hasB s z = false := by simpa using hv
        have hrem := hide (remI_no hsw.out hv')
        have HV := hide hv'
        clear hv hv'
        go_wp2_with (go_at_call 8; refine (rhas_any _ n c1 s z wr _ HO.out.trimmed.2.2.2.1 HO.out.trimmed.1 (by omega) hsw.out hzb).mono ?_; rw [HV.out]; rintro e w' ⟨rfl, rfl⟩)
        go_roundw
        case rel => exact ⟨k + 1, by omega, by go_num, by rw [hsn.out, hrem.out]; exact HO.out, hb⟩
        case measure => simp [intOf]; omega
    · have hfull := hide (show neat (remsL ws (l.take k)) = withoutL ws l by rw [List.take_of_length_le (by have := HM.out; omega)]; rfl)
      have ht := hide HO.out.trimmed
      go_wp2_with (go_at_call 28; refine (neat_any A1 n c1 _ wr ht.out.2.2.2.1 ht.out.1 ht.out.2.1 ht.out.2.2.1 (by omega)).mono ?_; rw [hfull.out]; rintro e w2 ⟨v2, rfl, ho2, hb2⟩)
      obtain ⟨A2, c2, rfl, h3, h4, hs2⟩ := ho2.sl
      go_ret
      exact ⟨A2, c2, ret_slice (nI_len _), by rw [nI_len] at h3; exact h3, by simp only [maxLen] at h4; omega, hs2, hb.trans (hb2.mono hb.size)⟩
end Go.Proofs.YtechebecgfmplaaDoor
