/- The statement CodeEnds, walked: it answers true. Condition: the table of parts reads as listed. -/
import Derived.Test.YtpgljbjgbjjcnaaDoorCGreat
import Derived.Test.YtpgljbjgbjjcnaaDoorCAlive
import Derived.Test.YtpgljbjgbjjcnaaDoorVRef
set_option linter.unusedSimpArgs false
set_option linter.unusedVariables false
namespace Go.Proofs.YtpgljbjgbjjcnaaDoor
open Go.RowKit

theorem encR_no {p : List FunV} (h : (encR p).2 ≠ 0) : (encR p).1 = [] := by
  unfold encR at h ⊢
  split
  · rename_i h1
    rw [if_pos h1] at h
    split
    · rename_i h2; rw [if_pos h2] at h; exact absurd rfl h
    · rfl
  · rfl
theorem encR_pos {p : List FunV} (h : (encR p).2 = 0) : 0 < (encR p).1.length := by
  obtain ⟨-, -, h3⟩ := encR_ok h
  rw [h3]
  unfold encProg
  rw [List.length_append, encL_one (by omega)]
  have := enc_pos ((p.length : Int)).toNat
  omega
/-- Bytes are bytes. -/
def AllB (l : List Int) : Prop := ∀ z ∈ l, 0 ≤ z ∧ z ≤ 255
theorem AllB.app {a b : List Int} (h : AllB a) (h2 : AllB b) : AllB (a ++ b) := fun z hz => (List.mem_append.1 hz).elim (h z) (h2 z)
theorem AllB.flat {α : Type} {l : List α} {f : α → List Int} (h : ∀ x, AllB (f x)) : AllB (l.flatMap f) := fun z hz => by
  obtain ⟨x, -, hx⟩ := List.mem_flatMap.1 hz
  exact h x z hx
theorem AllB.enc (u : Nat) : AllB (enc u) := fun z hz => enc_byte u u (Nat.le_refl _) z hz
theorem AllB.encL (l : List Int) : AllB (encL l) := AllB.flat fun x => by
  unfold encI
  split
  · exact fun z hz => absurd hz (by simp)
  · exact AllB.enc _
theorem AllB.part (x : InsV) (c : Nat) : AllB (encPart x c) := by
  unfold encPart
  split
  · exact AllB.enc _
  · split
    · exact (AllB.encL _).app (AllB.encL _)
    · exact AllB.encL _
theorem AllB.ins (x : InsV) : AllB (encIns x) := (AllB.encL _).app (AllB.flat fun c => AllB.part x c)
theorem AllB.blk (b : List InsV) : AllB (encBlk b) := (AllB.encL _).app (AllB.flat AllB.ins)
theorem AllB.var (kb : Int × Int) : AllB (encVar kb) := by
  unfold encVar
  refine (AllB.encL _).app ?_
  split
  · exact AllB.encL _
  · exact fun z hz => absurd hz (by simp)
theorem AllB.func (f : FunV) : AllB (encFun f) := (((AllB.encL _).app (AllB.flat AllB.var)).app (AllB.encL _)).app (AllB.flat AllB.blk)
theorem AllB.encR (p : List FunV) : AllB (encR p).1 := by
  unfold Proofs.YtpgljbjgbjjcnaaDoor.encR
  split
  · split
    · exact (AllB.encL _).app (AllB.flat AllB.func)
    · exact fun z hz => absurd hz (by simp)
  · exact fun z hz => absurd hz (by simp)
set_option maxHeartbeats 1000000 in
set_option maxRecDepth 100000 in
theorem ends_law (vp : Value) (p : List FunV) (cu : Nat) (Am : Option Addr) (nm cm : Nat) (more : List Int) (w : World) (hT : TabP w) (hp : FunsV w (· < w.heap.size) vp p) (hcu : cu ≤ 65535) (hm : Sl w w.heap.size .u8 Am more) (hnm : more.length = nm) (hcm : nm ≤ cm) (hmx : cm ≤ 9223372036854775807) (hby : AllB more) :
    Calls Tryd.prog 7 #[.agg #[vp], .int .u16 cu, .slice Am nm cm] w fun e w' => e = .returned (.bool true) ∧ Below w.heap.size w w' := by
  have hR := hp.range
  have kp := fun (W : World) (hW : Below w.heap.size w W) => hp.keep (up hW (Nat.le_refl _)) (fun _ h => h)
  obtain ⟨A, c, rfl, -, -⟩ := hp.open'
  have HA := hide (fun (W : World) (hW : Below w.heap.size w W) => alive_any W (hT.below hW hT.1))
  have HG := hide (fun (W : World) (hW : Below w.heap.size w W) => great_any _ p W w.heap.size hW.size (kp W hW))
  have HE := hide (fun (W : World) (hW : Below w.heap.size w W) => encode_any _ p W w.heap.size hW.size (hT.below hW hT.1) (kp W hW))
  have HD := hide (fun (W : World) (hW : Below w.heap.size w W) (A : Option Addr) (n c : Nat) (zs : List Int) (hr : Sl W W.heap.size .u8 A zs) (hn : zs.length = n) (hc : n ≤ c) (hmax : c ≤ 9223372036854775807) (hby : ∀ z ∈ zs, 0 ≤ z ∧ z ≤ 255) => decode_any A n c zs W hr hn hc hmax hby (hT.below hW hT.1))
  have HM := hide (fun (W : World) (hW : Below w.heap.size w W) => (hm.below hW).more hW.size)
  have HNM := hide hnm
  have HBY := hide hby
  have HNO := hide (fun h => encR_no (p := p) h)
  have HPO := hide (fun h => encR_pos (p := p) h)
  have HCUT := hide (fun (h : (encR p).2 = 0) (k : Nat) (hk : k < (encR p).1.length) => enc_cut hR h hk)
  have HDEC := hide (fun (h : (encR p).2 = 0) (m : List Int) => enc_dec hR h m)
  have HAB := hide (AllB.encR p)
  obtain ⟨i0, hi0, iz0, iz1, iz2⟩ := info_parts info_u8
  have HI := hide hi0
  clear hi0
  generalize p.length = lp at *
  unfold EncA at HE
  generalize encR p = ep at *
  obtain ⟨ea, en⟩ := ep
  simp only at HE HNO HPO HCUT HDEC HAB
  clear kp hp hT hR hm hnm hby
  go_enter Tryd.func7, Tryd.ntmps7
  go_upto_region 3 with (go_at_call 13; refine (HA.out _ (alloc1 w _)).mono ?_; rintro e w1 ⟨rfl, hb1⟩; have hz1 := hb1.size; simp only [World.size_alloc] at hz1 hb1; have x1 := (hb1.cell (p := ⟨w.heap.size, 0, none⟩) (by show w.heap.size < _; omega)).trans (show _ = some (Value.slice A lp c) by simp); have hc1 := (alloc1 w (.cells #[.slice A lp c] 24)).trans (hb1.mono (by omega)))
  clear hb1
  have HC1 := hide hc1
  clear hc1
  go_upto_region 5 with (go_at_call 14; refine (HG.out w1 HC1.out).mono ?_; rintro e w2 ⟨b1, rfl, hb2⟩; have hz2 := hb2.size; have y1 := (hb2.cell (p := ⟨w.heap.size, 0, none⟩) (by show w.heap.size < _; omega)).trans x1; have HC2 := hide (HC1.out.trans (hb2.mono (by omega))); clear x1; have x1 := y1; clear y1 hb2)
  · go_ret
    exact ⟨rfl, HC2.out⟩
  · go_ret
    exact ⟨rfl, HC2.out⟩
  by_cases hen : en = 0
  · subst hen
    have hn0 := HPO.out rfl
    have hcut := HCUT.out rfl
    have hdec := HDEC.out rfl
    obtain ⟨na, hna⟩ : ∃ na, ea.length = na := ⟨_, rfl⟩
    rw [hna] at hn0 hcut HE
    have HNA := hide hna
    have hk : cu % na < na := Nat.mod_lt _ hn0
    have hcut2 := hcut (cu % na) hk
    have HD1 := hide (fun (W : World) (hW : Below w.heap.size w W) (A : Option Addr) (c : Nat) (hr : Sl W W.heap.size .u8 A (ea.take (cu % na))) (hc : cu % na ≤ c) (hmax : c ≤ 9223372036854775807) => HD.out W hW A (cu % na) c (ea.take (cu % na)) hr (by rw [List.length_take, hna]; omega) hc hmax (fun z hz => HAB.out z (List.mem_of_mem_take hz)))
    have HD2 := hide (fun (W : World) (hW : Below w.heap.size w W) (A : Option Addr) (n c : Nat) (hr : Sl W W.heap.size .u8 A (ea ++ more)) (hn : (ea ++ more).length = n) (hc : n ≤ c) (hmax : c ≤ 9223372036854775807) => HD.out W hW A n c (ea ++ more) hr hn hc hmax (HAB.out.app HBY.out))
    have hd2 := hdec more
    have hnm' := HNM.out
    unfold DecA at HD1
    rw [hcut2] at HD1
    have hfin : ∃ er : Nat, (decR (ea ++ more)).2 = er ∧ ((more = [] ∧ nm = 0 ∧ er = 0) ∨ (0 < nm ∧ er = 11)) := by
      rw [hd2, ← hnm']
      by_cases hmo : more = []
      · subst hmo; exact ⟨0, by simp, .inl ⟨rfl, rfl, rfl⟩⟩
      · exact ⟨11, by simp [hmo], .inr ⟨List.length_pos_iff.2 hmo, rfl⟩⟩
    obtain ⟨er, her, hfin⟩ := hfin
    have HD2' := hide (fun (W : World) (hW : Below w.heap.size w W) (A : Option Addr) (n c : Nat) (hr : Sl W W.heap.size .u8 A (ea ++ more)) (hn : (ea ++ more).length = n) (hc : n ≤ c) (hmax : c ≤ 9223372036854775807) => (HD2.out W hW A n c hr hn hc hmax).mono (R' := fun e w' => ∃ A n c, e = .returned (.tuple #[.agg #[.slice A n c], .int .i64 (er : Int)]) ∧ Below W.heap.size W w') (fun e w' ⟨v, h1, h2, h3⟩ => by obtain ⟨A', c', e', -, -⟩ := h2.open'; exact ⟨A', _, c', by rw [h1, her, e'], h3⟩))
    clear HD2 her
    have HFIN := hide hfin
    clear hfin
    have e1 : Int.tmod (cu : Int) (na : Int) = ((cu % na : Nat) : Int) := by rw [Int.tmod_eq_emod_of_nonneg (by omega)]; rfl
    generalize cu % na = k at *
    clear HDEC HCUT HPO HNO hcut hdec hcut2 hd2 hna hnm'
    go_upto_region 9 with (first
      | (go_at_call 20; refine (HD1.out w3 HC3.out _ _ ((HS3.out).take _) (by omega) (by omega)).mono ?_; rintro e w4 ⟨v4, rfl, hv4, hb4⟩; obtain ⟨A4, c4, rfl, -, -⟩ := hv4.open'; clear hv4; have HC4 := hide (HC3.out.trans (hb4.mono (by have := HC3.out.size; omega))); have hz4 := hb4.size; have HS4 := hide (HS3.out.below hb4); clear hb4)
      | (go_at_call 15; refine (HE.out w2 HC2.out).mono ?_; rintro e w3 ⟨A3, c3, rfl, hs3, hl3, hm3, hr3, hb3⟩; have hz3 := hb3.size; have HC3 := hide (HC2.out.trans (hb3.mono (by omega))); have HS3 := hide hs3; clear hb3 hs3))
    obtain ⟨w5, hw5⟩ : ∃ w5, w5 = w4.alloc (.cells #[.slice A4 0 c4] 24) := ⟨_, rfl⟩
    have h5 : w4.heap.size < w5.heap.size := by rw [hw5]; simp
    have HC5 := hide (show Below w.heap.size w w5 by rw [hw5]; exact HC4.out.alloc (by omega) _)
    have HS5 := hide (show Sl w5 w3.heap.size .u8 A3 ea by rw [hw5]; exact HS4.out.alloc (by omega) _)
    have HM5 := hide (HM.out w5 HC5.out)
    rw [← hw5]
    clear hw5 HS4 HS3 HD1
    have e0 := hide (Ow.empty w5 5 .u8)
    have b5 := hide (show Below w5.heap.size w5 (w5.alloc (.cells #[] 5)) from alloc1 w5 _)
    rcases HFIN.out with ⟨-, rfl, rfl⟩ | ⟨hn0, rfl⟩
    · clear HFIN
      go_wp2_with (first
        | (go_at_call 20; refine (HD2'.out w8 HC8.out _ n8 c8 HS8.out HN8.out hl8 hm8).mono ?_; rintro e w9 ⟨A9, n9, c9, rfl, hb9⟩; have HC9 := hide (HC8.out.trans (hb9.mono (by have := HC8.out.size; omega))); clear hb9)
        | (at_builtin; refine wpList_append_sl _ rfl (.tmp 46) (.tmp 47) _ rfl w5.heap.size 5 .u8 i0 _ 1 Tryd.underlying27 HI.out iz0 iz1 iz2 rfl (by omega) v1 ([] ++ ea) rfl HO7.out w5.heap.size _ _ _ more rfl HNM.out (HM5.out.below HB7.out) (by have := HNA.out; simp; omega) HB7.out.size ?_; intro v2 w8 ho8 hb8; rw [List.nil_append] at ho8; have HC8 := hide (HC5.out.trans ((HB7.out.trans hb8).mono (by have := HC5.out.size; omega))); obtain ⟨A8, c8, hv8, hl8, hm8, hs8⟩ := ho8.sl; obtain ⟨n8, hn8⟩ : ∃ n8, (ea ++ more).length = n8 := ⟨_, rfl⟩; rw [hn8] at hv8 hl8; subst hv8; simp only [maxLen] at hm8; have HN8 := hide hn8; have HS8 := hide hs8; clear ho8 hb8 hs8 hn8)
        | (at_builtin; refine wpList_append_sl _ rfl (.tmp 44) (.tmp 45) _ rfl w5.heap.size 5 .u8 i0 _ 1 Tryd.underlying27 HI.out iz0 iz1 iz2 rfl (by omega) _ [] rfl e0.out w5.heap.size _ _ _ ea rfl HNA.out ((HS5.out.below (b5.out.mono (by omega))).more (by omega)) (by simp; omega) (by simp) ?_; intro v1 w7 ho7 hb7; have HO7 := hide ho7; have HB7 := hide (b5.out.trans hb7); clear ho7 hb7))
      go_ret
      exact ⟨by simp, HC9.out.alloc (by have := HC9.out.size; omega) _⟩
    · clear HFIN
      have hnb : ((nm : Int) == 0) = false := by simp; omega
      go_wp2_with (first
        | (go_at_call 20; refine (HD2'.out w8 HC8.out _ n8 c8 HS8.out HN8.out hl8 hm8).mono ?_; rintro e w9 ⟨A9, n9, c9, rfl, hb9⟩; have HC9 := hide (HC8.out.trans (hb9.mono (by have := HC8.out.size; omega))); clear hb9)
        | (at_builtin; refine wpList_append_sl _ rfl (.tmp 46) (.tmp 47) _ rfl w5.heap.size 5 .u8 i0 _ 1 Tryd.underlying27 HI.out iz0 iz1 iz2 rfl (by omega) v1 ([] ++ ea) rfl HO7.out w5.heap.size _ _ _ more rfl HNM.out (HM5.out.below HB7.out) (by have := HNA.out; simp; omega) HB7.out.size ?_; intro v2 w8 ho8 hb8; rw [List.nil_append] at ho8; have HC8 := hide (HC5.out.trans ((HB7.out.trans hb8).mono (by have := HC5.out.size; omega))); obtain ⟨A8, c8, hv8, hl8, hm8, hs8⟩ := ho8.sl; obtain ⟨n8, hn8⟩ : ∃ n8, (ea ++ more).length = n8 := ⟨_, rfl⟩; rw [hn8] at hv8 hl8; subst hv8; simp only [maxLen] at hm8; have HN8 := hide hn8; have HS8 := hide hs8; clear ho8 hb8 hs8 hn8)
        | (at_builtin; refine wpList_append_sl _ rfl (.tmp 44) (.tmp 45) _ rfl w5.heap.size 5 .u8 i0 _ 1 Tryd.underlying27 HI.out iz0 iz1 iz2 rfl (by omega) _ [] rfl e0.out w5.heap.size _ _ _ ea rfl HNA.out ((HS5.out.below (b5.out.mono (by omega))).more (by omega)) (by simp; omega) (by simp) ?_; intro v1 w7 ho7 hb7; have HO7 := hide ho7; have HB7 := hide (b5.out.trans hb7); clear ho7 hb7))
      go_ret
      exact ⟨by simp, HC9.out.alloc (by have := HC9.out.size; omega) _⟩
  · have hea := HNO.out hen
    subst hea
    have heb : ((en : Int) != 0) = true := by simp; omega
    clear hen
    go_wp2_with (go_at_call 15; refine (HE.out w2 HC2.out).mono ?_; rintro e w3 ⟨A3, c3, rfl, -, -, -, -, hb3⟩)
    go_ret
    exact ⟨by simp, HC2.out.trans (hb3.mono (by omega))⟩
end Go.Proofs.YtpgljbjgbjjcnaaDoor
