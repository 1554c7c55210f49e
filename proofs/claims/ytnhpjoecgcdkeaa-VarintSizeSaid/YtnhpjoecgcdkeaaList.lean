/- The contracts of varint.List and varint.Split. Conditions: no more than 200 numbers; Split: of bytes that List wrote. -/
import Derived.Test.YtnhpjoecgcdkeaaPuts
namespace Go.Proofs.Ytnhpjoecgcdkeaa
open Go.RowKit

/-- All bytes of a list: none of the numbers below 0. -/
def encL (zs : List Int) : List Int := zs.flatMap encI
theorem encL_snoc {zs : List Int} {k : Nat} {x : Int} (h : zs[k]? = some x) : encL (zs.take (k + 1)) = encL (zs.take k) ++ encI x := by
  rw [List.take_add_one, h]; simp [encL]
theorem encI_len {x : Int} (hx : x ≤ 9223372036854775807) : (encI x).length ≤ 9 := by
  unfold encI; split
  · simp
  · exact enc_len9 (by omega)
theorem encL_len : ∀ (zs : List Int), (∀ z ∈ zs, z ≤ 9223372036854775807) → (encL zs).length ≤ 9 * zs.length
  | [], _ => by simp [encL]
  | z :: zs, h => by
    have h1 := encI_len (h z (by simp))
    have h2 := encL_len zs (fun y hy => h y (by simp [hy]))
    simp only [encL, List.flatMap_cons, List.length_append, List.length_cons] at h2 ⊢
    omega

set_option maxRecDepth 100000 in
theorem list_any (A : Option Addr) (n c : Nat) (zs : List Int) (w : World) (hr : Sl w w.heap.size .i64 A zs) (hn : zs.length = n) (hroom : n ≤ 100000) (hz : ∀ z ∈ zs, -9223372036854775808 ≤ z ∧ z ≤ 9223372036854775807) :
    Calls Try.prog 17 #[.slice A n c] w fun e w' => ∃ v, e = .returned v ∧ Ow w' w.heap.size 5 .u8 v (encL zs) ∧ Below w.heap.size w w' := by
  have HR := hide hr
  have HN := hide hn
  have HZ := hide hz
  clear hr hn hz
  go_enter Try.func17, Try.ntmps17
  go_wp2
  go_loopw [3, 8] (fun v i wr => ∃ k : Nat, i = .int .i64 k ∧ k ≤ n ∧ Ow wr w.heap.size 5 .u8 v (encL (zs.take k)) ∧ Below w.heap.size w wr) (fun _ i _ => n - (intOf i).toNat)
  case atStart => exact ⟨0, rfl, Nat.zero_le _, Ow.nil _ _ _ _, Below.refl _ _⟩
  case round =>
    obtain ⟨k, rfl, hk, ho, hb⟩ := hrel
    have HO := hide ho
    clear ho
    by_cases hlt : k < n
    · obtain ⟨b, o, rfl, hbb, hc⟩ := HR.out (by have := HN.out; omega)
      have hlz : k < zs.length := by have := HN.out; omega
      obtain ⟨x, hx⟩ : ∃ x, zs[k]? = some x := ⟨_, List.getElem?_eq_getElem hlz⟩
      have hcx : wr.cell? ⟨b, o + k, none⟩ = some (.int .i64 x) := by rw [hb.cell hbb, hc k hlz]; simp [List.getD, hx]
      have hxb := HZ.out x (List.mem_of_getElem? hx)
      have HX := hide hx
      have hlen : (encL (zs.take k)).length ≤ 9 * n := by
        have := encL_len (zs.take k) (fun z hz => (HZ.out z (List.mem_of_mem_take hz)).2)
        simp at this; omega
      clear hc hlz hx
      by_cases h0 : x < 0
      · have he := hide (show encI x = [] by unfold encI; rw [if_pos h0])
        go_wp2
        go_roundw
        case rel => exact ⟨k + 1, by go_num, by omega, by rw [encL_snoc HX.out, he.out, List.append_nil]; exact HO.out, hb⟩
        case measure => simp [intOf]; omega
      · obtain ⟨m, rfl⟩ : ∃ m : Nat, x = m := ⟨x.toNat, by omega⟩
        have he := hide (show encI (m : Int) = enc m by unfold encI; rw [if_neg h0]; simp)
        go_wp2_with (go_at_call 21; refine (lay_any m _ (encL (zs.take k)) _ w.heap.size HO.out hb.size (by omega) (by omega)).mono ?_; rintro e w2 ⟨v2, rfl, ho2, hb2⟩)
        go_roundw
        case rel => exact ⟨k + 1, by go_num, by omega, by rw [encL_snoc HX.out, he.out]; exact ho2, hb.trans hb2⟩
        case measure => simp [intOf]; omega
    · go_wp2
      go_ret
      exact ⟨_, rfl, by have := HO.out; rw [List.take_of_length_le (by have := HN.out; omega)] at this; exact this, hb⟩

theorem info_i64 : (Try.prog.info? 3).map (fun i => (i.zero, i.size, i.bytes)) = some (some (.int .i64 0), 1, 8) := by kernel_rfl

/-- The bytes of numbers, all of them from 0 on. -/
def encN (ns : List Nat) : List Int := ns.flatMap enc
def natsI (ns : List Nat) : List Int := ns.map (fun m : Nat => (m : Int))
/-- Of a list, those from 0 on. -/
def keep0 (zs : List Int) : List Nat := zs.filterMap fun z => if z < 0 then none else some z.toNat
theorem encL_keep : ∀ zs : List Int, encL zs = encN (keep0 zs)
  | [] => rfl
  | z :: zs => by
    have ih := encL_keep zs
    simp only [encL, encN, keep0, List.flatMap_cons, List.filterMap_cons] at ih ⊢
    rw [ih]
    unfold encI
    by_cases h : z < 0 <;> simp [h]
theorem encN_take {ns : List Nat} {k m : Nat} (h : ns[k]? = some m) : encN (ns.take (k + 1)) = encN (ns.take k) ++ enc m := by
  rw [List.take_add_one, h]; simp [encN]
theorem encN_drop {ns : List Nat} {k m : Nat} (h : ns[k]? = some m) : encN (ns.drop k) = enc m ++ encN (ns.drop (k + 1)) := by
  obtain ⟨hk, rfl⟩ := List.getElem?_eq_some_iff.1 h
  rw [List.drop_eq_getElem_cons hk]; simp only [encN, List.flatMap_cons]
theorem encN_split (ns : List Nat) (k : Nat) : encN ns = encN (ns.take k) ++ encN (ns.drop k) := by
  unfold encN; rw [← List.flatMap_append, List.take_append_drop]
theorem encN_byte (ns : List Nat) : ∀ z ∈ encN ns, 0 ≤ z ∧ z ≤ 255 := fun z hz => by
  obtain ⟨m, _, hm⟩ := List.mem_flatMap.1 hz
  exact enc_byte m m (Nat.le_refl _) z hm

set_option maxRecDepth 100000 in
theorem split_any (A : Option Addr) (n c : Nat) (ns : List Nat) (w : World) (hr : Sl w w.heap.size .u8 A (encN ns)) (hn : (encN ns).length = n) (hc : n ≤ c) (hcap : c ≤ 9223372036854775807) (hroom : n ≤ 1000000) (hlen : ns.length ≤ 1000000) (hm : ∀ m ∈ ns, m < 9223372036854775808) :
    Calls Try.prog 18 #[.slice A n c] w fun e w' => ∃ v, e = .returned (.tuple #[v, .int .i64 0]) ∧ Ow w' w.heap.size 3 .i64 v (natsI ns) ∧ Below w.heap.size w w' := by
  obtain ⟨i0, hi0, hz0, hz1, hz2⟩ := info_parts info_i64
  have HI := hide hi0
  have HR := hide hr
  have HN := hide hn
  have HM := hide hm
  clear hr hn hm hi0
  go_enter Try.func18, Try.ntmps18
  go_wp2
  go_loopw [4, 5] (fun v i wr => ∃ k j : Nat, i = .int .i64 j ∧ k ≤ ns.length ∧ j = (encN (ns.take k)).length ∧ Ow wr w.heap.size 3 .i64 v (natsI (ns.take k)) ∧ Below w.heap.size w wr) (fun _ i _ => n - (intOf i).toNat)
  case atStart => exact ⟨0, 0, rfl, Nat.zero_le _, rfl, Ow.nil _ _ _ _, Below.refl _ _⟩
  case round =>
    obtain ⟨k, j, rfl, hk, hj, ho, hb⟩ := hrel
    have HO := hide ho
    have HJ := hide hj
    have hspl := congrArg List.length (encN_split ns k)
    rw [List.length_append] at hspl
    have HSP := hide hspl
    clear ho hj hspl
    by_cases hlt : k < ns.length
    · obtain ⟨m, hmk⟩ : ∃ m, ns[k]? = some m := ⟨_, List.getElem?_eq_getElem hlt⟩
      have hmb := HM.out m (List.mem_of_getElem? hmk)
      have hl1 := enc_pos m
      have hl9 := enc_len9 hmb
      have hdr := encN_drop hmk
      have hjn : j < n := by
        have h1 := HSP.out; have h2 := HN.out; have h3 := HJ.out
        rw [hdr, List.length_append] at h1; omega
      have hjn2 : j + (enc m).length ≤ n := by
        have h1 := HSP.out; have h2 := HN.out; have h3 := HJ.out
        rw [hdr, List.length_append] at h1; omega
      obtain ⟨b, o, rfl, hbb, hcell⟩ := HR.out (by have := HN.out; omega)
      have hdrop : (encN ns).drop j = encN (ns.drop k) := by
        rw [encN_split ns k, HJ.out, List.drop_left]
      have hs : Sl wr w.heap.size .u8 (some ⟨b, o + j, none⟩) (encN (ns.drop k)) := by
        rw [← hdrop]
        exact (HR.out.below hb).drop (fun _ b' o' h => by injection h with h; injection h with h1 h2 h3; subst h1; subst h2; rfl)
      have hget := get_any (some ⟨b, o + j, none⟩) (n - j) (c - j) (encN (ns.drop k)) wr _ hs (by rw [← hdrop, List.length_drop, HN.out]) (by omega) (by omega) (encN_byte _)
      have hrd : rd 9 0 0 (encN (ns.drop k)) = (m, (enc m).length, 0) := by rw [hdr]; exact rd_put' m _ hmb
      rw [hrd] at hget
      have HG := hide hget
      have HMK := hide hmk
      have hkl : (natsI (ns.take k)).length ≤ 1000000 := by simp [natsI]; omega
      clear hcell hs hget hrd hdr hdrop hmk
      go_wp2_with (first | (go_at_call 16; refine HG.out.mono ?_; rintro e w' ⟨rfl, rfl⟩) | (at_builtin; refine wpList_append_one _ rfl (.tmp 24) (.tmp 26) _ rfl w.heap.size 3 .i64 i0 _ 8 Try.underlying32 HI.out hz0 hz1 hz2 rfl (by omega) _ (natsI (ns.take k)) rfl HO.out _ rfl (by omega) hb.size ?_; intro v1 w1 ho1 hb1))
      go_roundw
      case rel =>
        refine ⟨k + 1, j + (enc m).length, by go_num, by omega, ?_, ?_, hb.trans hb1⟩
        · rw [encN_take HMK.out, List.length_append, HJ.out]
        · have : natsI (ns.take (k + 1)) = natsI (ns.take k) ++ [(m : Int)] := by
            rw [List.take_add_one, HMK.out]; simp [natsI]
          rw [this]; exact ho1
      case measure => simp [intOf]; omega
    · have hjn : n ≤ j := by
        have h1 := HSP.out; have h2 := HN.out; have h3 := HJ.out
        rw [List.drop_of_length_le (by omega)] at h1
        simp [encN] at h1 h2 h3; omega
      go_wp2
      go_ret2
      refine ⟨_, rfl, ?_, hb⟩
      have := HO.out
      rw [List.take_of_length_le (by omega)] at this
      exact this
end Go.Proofs.Ytnhpjoecgcdkeaa
