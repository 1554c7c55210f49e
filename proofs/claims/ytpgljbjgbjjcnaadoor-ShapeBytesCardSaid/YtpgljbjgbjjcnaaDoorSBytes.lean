/- The statement ShapeBytes, walked: it answers true. Conditions: the table of parts reads as listed; no slice of the program is longer than any machine's memory. -/
import Derived.Test.YtpgljbjgbjjcnaaDoorSW
import Derived.Test.YtpgljbjgbjjcnaaDoorCDecode
import Derived.Test.YtpgljbjgbjjcnaaDoorCEncode
import Derived.Test.YtpgljbjgbjjcnaaDoorCForth2
import Derived.Test.YtpgljbjgbjjcnaaDoorRSame
set_option linter.unusedSimpArgs false
set_option linter.unusedVariables false
namespace Go.Proofs.YtpgljbjgbjjcnaaDoor
open Go.RowKit

def AllB4 (l : List Int) : Prop := ∀ z ∈ l, 0 ≤ z ∧ z ≤ 255
theorem AllB4.app {a b : List Int} (h : AllB4 a) (h2 : AllB4 b) : AllB4 (a ++ b) := fun z hz => (List.mem_append.1 hz).elim (h z) (h2 z)
theorem AllB4.flat {α : Type} {l : List α} {f : α → List Int} (h : ∀ x, AllB4 (f x)) : AllB4 (l.flatMap f) := fun z hz => by
  obtain ⟨x, -, hx⟩ := List.mem_flatMap.1 hz
  exact h x z hx
theorem AllB4.enc (u : Nat) : AllB4 (enc u) := fun z hz => enc_byte u u (Nat.le_refl _) z hz
theorem AllB4.encL (l : List Int) : AllB4 (encL l) := AllB4.flat fun x => by
  unfold encI
  split
  · exact fun z hz => absurd hz (by simp)
  · exact AllB4.enc _
theorem AllB4.part (x : InsV) (c : Nat) : AllB4 (encPart x c) := by
  unfold encPart
  split
  · exact AllB4.enc _
  · split
    · exact (AllB4.encL _).app (AllB4.encL _)
    · exact AllB4.encL _
theorem AllB4.ins (x : InsV) : AllB4 (encIns x) := (AllB4.encL _).app (AllB4.flat fun c => AllB4.part x c)
theorem AllB4.blk (b : List InsV) : AllB4 (encBlk b) := (AllB4.encL _).app (AllB4.flat AllB4.ins)
theorem AllB4.var (kb : Int × Int) : AllB4 (encVar kb) := by
  unfold encVar
  refine (AllB4.encL _).app ?_
  split
  · exact AllB4.encL _
  · exact fun z hz => absurd hz (by simp)
theorem AllB4.func (f : FunV) : AllB4 (encFun f) := (((AllB4.encL _).app (AllB4.flat AllB4.var)).app (AllB4.encL _)).app (AllB4.flat AllB4.blk)
theorem AllB4.encR (p : List FunV) : AllB4 (encR p).1 := by
  unfold Proofs.YtpgljbjgbjjcnaaDoor.encR
  split
  · split
    · exact (AllB4.encL _).app (AllB4.flat AllB4.func)
    · exact fun z hz => absurd hz (by simp)
  · exact fun z hz => absurd hz (by simp)
theorem chk_two (p : List FunV) : (chkN4 p = 0 ∧ progB4 p = true) ∨ chkN4 p = 5 := by
  unfold chkN4
  by_cases h : progB4 p = true
  · left; rw [if_pos h]; exact ⟨rfl, h⟩
  · right; rw [if_neg h]
set_option maxHeartbeats 1000000 in
set_option maxRecDepth 100000 in
theorem bytes4_law (vp : Value) (p : List FunV) (w : World) (hT : TabP w) (hp : FunsV w (· < w.heap.size) vp p) (hsz : progSize p) :
    Calls Tryd.prog 10 #[.agg #[vp]] w fun e w' => e = .returned (.bool true) ∧ Below w.heap.size w w' := by
  have hR := hp.range
  have kp := fun (W : World) (hW : Below w.heap.size w W) => hp.keep (up hW (Nat.le_refl _)) (fun _ h => h)
  obtain ⟨A, c, rfl, -, -⟩ := hp.open'
  have HA := hide (fun (W : World) (hW : Below w.heap.size w W) => alive4_any W (hT.below hW hT.1))
  have HG := hide (fun (W : World) (hW : Below w.heap.size w W) => great2_any _ p W w.heap.size hW.size (kp W hW) hsz)
  have HE := hide (fun (W : World) (hW : Below w.heap.size w W) => encode_any _ p W w.heap.size hW.size (hT.below hW hT.1) (kp W hW))
  have HD := hide (fun (W : World) (hW : Below w.heap.size w W) (A : Option Addr) (n c : Nat) (zs : List Int) (hr : Sl W W.heap.size .u8 A zs) (hn : zs.length = n) (hc : n ≤ c) (hmax : c ≤ 9223372036854775807) (hby : ∀ z ∈ zs, 0 ≤ z ∧ z ≤ 255) => decode_any A n c zs W hr hn hc hmax hby (hT.below hW hT.1))
  have HSM := hide (fun (W : World) (hW : Below w.heap.size w W) (v : Value) (q : List FunV) (hq : FunsV W (· < W.heap.size) v q) => rsame_any _ v p q W W.heap.size (Nat.le_refl _) ((kp W hW).keep (fun _ _ _ => rfl) (fun b h => by have := hW.size; omega)) hq)
  have HCK := hide (fun (W : World) (hW : Below w.heap.size w W) (hf : progFew p) => check_any _ p W w.heap.size hW.size (hT.below hW hT.1) (kp W hW) hf)
  have HCQ := hide (fun (W : World) (hW : Below w.heap.size w W) (v : Value) (hq : FunsV W (· < W.heap.size) v p) (hf : progFew p) => check_any v p W W.heap.size (Nat.le_refl _) (hT.below hW hT.1) hq hf)
  have HDEC := hide (fun (h : (encR p).2 = 0) => enc_dec hR h [])
  have HAB := hide (AllB4.encR p)
  have HTWO := hide (chk_two p)
  have HPE := hide (fun h : progB4 p = true => prog_enc h)
  have HFEW := hide (fun h : ∀ f ∈ p, smallF f => smallF.few h)
  simp only [List.append_nil, if_true] at HDEC
  generalize chkN4 p = ck at *
  generalize hlp : p.length = lp at *
  unfold EncA at HE
  generalize encR p = ep at *
  obtain ⟨ea, en⟩ := ep
  simp only at HE HDEC HAB HPE
  clear kp hp hT hR hsz hlp
  go_enter Tryd.func10, Tryd.ntmps10
  go_upto_region 3 with (go_at_call 24; refine (HA.out _ (alloc1 w _)).mono ?_; rintro e w1 ⟨rfl, hb1⟩; have hz1 := hb1.size; simp only [World.size_alloc] at hz1 hb1; have x1 := (hb1.cell (p := ⟨w.heap.size, 0, none⟩) (by show w.heap.size < _; omega)).trans (show _ = some (Value.slice A lp c) by simp); have hc1 := (alloc1 w (.cells #[.slice A lp c] 24)).trans (hb1.mono (by omega)))
  clear hb1
  have HC1 := hide hc1
  clear hc1
  rcases HTWO.out with ⟨rfl, hpb⟩ | rfl
  rotate_left
  focus
    go_wp2_with (first
      | (have q := HC2.out; go_at_call 27; refine (HCK.out w2 HC2.out (HFEW.out (HS2.out (Bool.eq_false_iff.2 (by assumption))))).mono ?_; rintro e w3 ⟨rfl, hb3⟩; have hz3 := hb3.size; have HC3 := hide (HC2.out.trans (hb3.mono (by omega))); clear hb3)
      | (go_at_call 14; refine (HG.out w1 HC1.out).mono ?_; rintro e w2 ⟨b1, rfl, hs2, hb2⟩; have hz2 := hb2.size; have y1 := (hb2.cell (p := ⟨w.heap.size, 0, none⟩) (by show w.heap.size < _; omega)).trans x1; have HC2 := hide (HC1.out.trans (hb2.mono (by omega))); have HS2 := hide hs2; clear x1; have x1 := y1; clear y1 hb2 hs2))
    all_goals
      go_ret
      first
        | exact ⟨rfl, HC3.out⟩
        | exact ⟨rfl, HC2.out⟩
  have hen := HPE.out hpb
  subst hen
  have hdec := HDEC.out rfl
  have HD1 := hide (fun (W : World) (hW : Below w.heap.size w W) (A : Option Addr) (n c : Nat) (hr : Sl W W.heap.size .u8 A ea) (hn : ea.length = n) (hc : n ≤ c) (hmax : c ≤ 9223372036854775807) => HD.out W hW A n c ea hr hn hc hmax HAB.out)
  unfold DecA at HD1
  rw [hdec] at HD1
  obtain ⟨na, hna⟩ : ∃ na, ea.length = na := ⟨_, rfl⟩
  rw [hna] at HE
  have HNA := hide hna
  clear HDEC hdec hna hpb HPE
  go_upto_region 5 with (first
      | (have q := HC2.out; go_at_call 27; have few := HFEW.out (HS2.out (Bool.eq_false_iff.2 (by assumption))); refine (HCK.out w2 HC2.out few).mono ?_; rintro e w3 ⟨rfl, hb3⟩; have hz3 := hb3.size; have HF := hide few; have y1 := (hb3.cell (p := ⟨w.heap.size, 0, none⟩) (by show w.heap.size < _; omega)).trans x1; have HC3 := hide (HC2.out.trans (hb3.mono (by omega))); clear hb3 few q)
      | (go_at_call 14; refine (HG.out w1 HC1.out).mono ?_; rintro e w2 ⟨b1, rfl, hs2, hb2⟩; have hz2 := hb2.size; have y1 := (hb2.cell (p := ⟨w.heap.size, 0, none⟩) (by show w.heap.size < _; omega)).trans x1; have HC2 := hide (HC1.out.trans (hb2.mono (by omega))); have HS2 := hide hs2; clear x1; have x1 := y1; clear y1 hb2 hs2))
  all_goals try (go_ret; exact ⟨rfl, HC2.out⟩)
  clear x1
  go_upto_region 7 with (first
      | (go_at_call 20; refine (HD1.out w4 HC4.out _ _ _ HS4.out HNA.out hl4 hm4).mono ?_; rintro e w5 ⟨v5, rfl, hv5, hb5⟩; obtain ⟨A5, c5, rfl, -, -⟩ := hv5.open'; have HV5 := hide hv5; have hz5 := hb5.size; have z1 := (hb5.cell (p := ⟨w.heap.size, 0, none⟩) (by show w.heap.size < _; omega)).trans x1; have HC5 := hide (HC4.out.trans (hb5.mono (by omega))); clear hb5 hv5 x1)
      | (go_at_call 15; refine (HE.out w3 HC3.out).mono ?_; rintro e w4 ⟨A4, c4, rfl, hs4, hl4, hm4, hr4, hb4⟩; have hz4 := hb4.size; have x1 := (hb4.cell (p := ⟨w.heap.size, 0, none⟩) (by show w.heap.size < _; omega)).trans y1; have HC4 := hide (HC3.out.trans (hb4.mono (by omega))); have HS4 := hide hs4; clear hb4 hs4 y1))
  obtain ⟨w6, hw6⟩ : ∃ w6, w6 = w5.alloc (.cells #[.slice A5 p.length c5] 24) := ⟨_, rfl⟩
  have h6 : w5.heap.size < w6.heap.size := by rw [hw6]; simp
  have HC6 := hide (show Below w.heap.size w w6 by rw [hw6]; exact HC5.out.alloc (by have := HC5.out.size; omega) _)
  have y6 : w6.cell? ⟨w5.heap.size, 0, none⟩ = some (.slice A5 p.length c5) := by rw [hw6]; simp
  have x6 : w6.cell? ⟨w.heap.size, 0, none⟩ = some (.slice A lp c) := by rw [hw6]; exact (World.cell?_alloc_lt _ _ _ (by show w.heap.size < _; omega)).trans z1
  have HV6 := hide (show FunsV w6 (· < w6.heap.size) (.slice A5 p.length c5) p by rw [hw6]; exact HV5.out.keep (Same'.of_below (alloc1 w5 _)) (fun b h => by simp; omega))
  rw [← hw6]
  have HSP := hide ((HSM.out w6 HC6.out _ p HV6.out).mono (R' := fun e w' => e = .returned (.bool true) ∧ Below w6.heap.size w6 w') (fun e w' ⟨h1, h2⟩ => ⟨by rw [h1]; simp, h2⟩))
  have HCQ2 := hide (fun (W : World) (hW : Below w6.heap.size w6 W) => HCQ.out W (HC6.out.trans (hW.mono HC6.out.size)) _ (HV6.out.keep (Same'.of_below hW) (fun b h => by have := hW.size; omega)) HF.out)
  clear hw6 HV5 HS4 HD1 z1 HV6 HCQ HSM
  generalize p.length = lp4 at *
  go_wp2_with (first
    | (have q := HC7.out; go_at_call 27; refine (HCQ2.out w7 HB7.out).mono ?_; rintro e w8 ⟨rfl, hb8⟩; have HC8 := hide (HC7.out.trans (hb8.mono HC7.out.size)); clear hb8 q)
    | (go_at_call 19; refine HSP.out.mono ?_; rintro e w7 ⟨rfl, hb7⟩; have y7 := (hb7.cell (p := ⟨w5.heap.size, 0, none⟩) h6).trans y6; have HB7 := hide hb7; have hz7 := hb7.size; have HC7 := hide (HC6.out.trans (hb7.mono HC6.out.size)); clear hb7 x6 y6))
  go_ret
  exact ⟨rfl, HC8.out⟩
end Go.Proofs.YtpgljbjgbjjcnaaDoor
