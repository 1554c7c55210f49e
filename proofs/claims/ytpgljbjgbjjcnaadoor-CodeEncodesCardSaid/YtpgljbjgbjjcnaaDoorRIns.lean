/- The contract of the reference's (*writer).ins. Condition: no more than 2^30 - 1000 bytes ahead. -/
import Derived.Test.YtpgljbjgbjjcnaaDoorRInsW
import Derived.Deep.RegionHeld3
import Derived.Deep.Cut
import Derived.Deep.QuietTactic
import Derived.BigQuiet
import Derived.StillTailTactics
set_option linter.unusedSimpArgs false
set_option linter.unusedVariables false
namespace Go.Proofs.YtpgljbjgbjjcnaaDoor
open Go.RowKit

theorem insI_below {w w1 : World} {B : Nat} {va : Value} {x : InsV} {g : Nat} (h : InsI w (· < B) va x) (hr : Read g w w1) (hB : B ≤ g) (hg : g ≤ w.heap.size) : InsI w1 (· < B) va x :=
  h.keep (hr.same (fun b hb => by omega)) (fun _ h => h)
/-- A place of a text. -/
theorem str_at {l : List Nat} (hl : ∀ c ∈ l, isLetter c) {s : ByteArray} (hs : strOf l = s) : s.size = l.length ∧ ∀ (k d : Nat), l[k]? = some d → ∀ hk : k < s.size, (s[k]'hk).toNat = d :=
  ⟨by rw [← hs, strOf_size], fun k d hd hk => by subst hs; exact strOf_get hl hd hk⟩

/-- An instruction's cells. -/
def SBox (w : World) (h : Nat) (x : InsV) (A : Option Addr) (n c : Nat) : Prop :=
  w.cell? ⟨h, 0, none⟩ = some (.int .i64 x.op) ∧ w.cell? ⟨h, 1, none⟩ = some (.int .i64 x.d) ∧ w.cell? ⟨h, 2, none⟩ = some (.int .i64 x.a) ∧ w.cell? ⟨h, 3, none⟩ = some (.int .i64 x.b) ∧ w.cell? ⟨h, 4, none⟩ = some (.int .i64 x.n) ∧ w.cell? ⟨h, 5, none⟩ = some (.int .i64 x.m) ∧ w.cell? ⟨h, 6, none⟩ = some (.slice A n c)
theorem SBox.of {w : World} {h : Nat} {x : InsV} {A : Option Addr} {n c : Nat} {T : TypeId} (hb : Box w h #[.int .i64 x.op, .int .i64 x.d, .int .i64 x.a, .int .i64 x.b, .int .i64 x.n, .int .i64 x.m, .slice A n c] T) : SBox w h x A n c :=
  ⟨(hb.cell 0 (v := .int .i64 x.op) rfl).1, (hb.cell 1 (v := .int .i64 x.d) rfl).1, (hb.cell 2 (v := .int .i64 x.a) rfl).1, (hb.cell 3 (v := .int .i64 x.b) rfl).1, (hb.cell 4 (v := .int .i64 x.n) rfl).1, (hb.cell 5 (v := .int .i64 x.m) rfl).1, (hb.cell 6 (v := .slice A n c) rfl).1⟩

/-- What stands behind k parts. -/
def insSt (x : InsV) (s : List Int × Bool) (ls : List Nat) (k : Nat) : List Int × Bool := (s.1 ++ (ls.take k).flatMap (encPart x), s.2 && (ls.take k).all (okB x))
theorem insSt_zero (x : InsV) (s : List Int × Bool) (ls : List Nat) : insSt x s ls 0 = s := by simp [insSt]
theorem insSt_step {x : InsV} {s : List Int × Bool} {ls : List Nat} {k c : Nat} (h : ls[k]? = some c) : insSt x s ls (k + 1) = ((insSt x s ls k).1 ++ encPart x c, (insSt x s ls k).2 && okB x c) := by
  simp [insSt, List.take_add_one, h, List.flatMap_append, Bool.and_assoc]
theorem insSt_len {x : InsV} {s : List Int × Bool} {ls : List Nat} (h : ∀ c ∈ ls, (encPart x c).length ≤ 45) (k : Nat) : (insSt x s ls k).1.length ≤ s.1.length + 45 * k := by
  unfold insSt
  rw [List.length_append]
  have h1 := flatMap_len (ls.take k) (encPart x) 45 (fun c hc => h c (List.mem_of_mem_take hc))
  have h2 : (ls.take k).length * 45 ≤ k * 45 := Nat.mul_le_mul_right _ (List.length_take_le _ _)
  omega
theorem insSt_end {x : InsV} {s : List Int × Bool} {ls : List Nat} {k : Nat} (h : ls.length ≤ k) : insSt x s ls k = (s.1 ++ ls.flatMap (encPart x), s.2 && ls.all (okB x)) := by
  unfold insSt; rw [List.take_of_length_le h]
theorem encPart_f {x : InsV} {c : Nat} (h1 : c ≠ 110) (h2 : c ≠ 76) : encPart x c = encL [fieldOf c x] ∧ okB x c = decide (0 ≤ fieldOf c x) := by
  unfold encPart okB; rw [if_neg h1, if_neg h2, if_neg h1, if_neg h2]; exact ⟨rfl, rfl⟩
theorem args_step {zs : List Int} {u : List Int × Bool} {j : Nat} {z : Int} (h : zs[j]? = some z) : ((u.1 ++ encL (zs.take j)) ++ encL [z], (u.2 && (zs.take j).all (fun z => decide (0 ≤ z))) && decide (0 ≤ z)) = (u.1 ++ encL (zs.take (j + 1)), u.2 && (zs.take (j + 1)).all (fun z => decide (0 ≤ z))) := by
  simp [List.take_add_one, h, encL, Bool.and_assoc]
theorem RW.cells {w : World} {g : Nat} {s : List Int × Bool} (h : RW w g s) : ∃ A c, w.cell? ⟨g, 0, none⟩ = some (.slice A s.1.length c) ∧ w.frozen? ⟨g, 0, none⟩ = false ∧ Sl w w.heap.size .u8 A s.1 ∧ Box w g #[.slice A s.1.length c, .bool s.2] 65 ∧ w.frozen? ⟨g, 1, none⟩ = false ∧ w.cell? ⟨g, 1, none⟩ = some (.bool s.2) := by
  obtain ⟨A, c, hb, hs, -, -⟩ := h
  exact ⟨A, c, (hb.cell 0 (v := .slice A s.1.length c) rfl).1, (hb.cell 0 (v := .slice A s.1.length c) rfl).2, hs, hb, (hb.cell 1 (v := .bool s.2) rfl).2, (hb.cell 1 (v := .bool s.2) rfl).1⟩

set_option maxHeartbeats 2000000 in
set_option maxRecDepth 100000 in
theorem rwins_any (x : InsV) (va : Value) (g B : Nat) (s : List Int × Bool) (w : World) (hW : RW w g s) (hB : B ≤ g) (hx : InsI w (· < B) va x) (hcnt : insCnt x = true) (hroom : s.1.length ≤ 1073740000) :
    Calls Tryd.prog 46 #[.pointer (some ⟨g, 0, none⟩), .agg #[.int .i64 x.op, .int .i64 x.d, .int .i64 x.a, .int .i64 x.b, .int .i64 x.n, .int .i64 x.m, va]] w fun e w' => e = .returned (.tuple #[]) ∧ RW w' g (s.1 ++ insB x, s.2 && insMayB x) ∧ Read g w w' := by
  have hlt := hW.lt
  have hRR : InsRR x := ⟨hx.2, hx.1.range⟩
  obtain ⟨A, c, rfl⟩ := hx.open'
  have HP := hide (fun W => rparts_any x.op W)
  obtain ⟨t, ht⟩ : ∃ t, strOf (partsN x.op) = t := ⟨_, rfl⟩
  rw [ht] at HP
  by_cases hls : partsN x.op = []
  · have he : insB x = [] := by unfold insB; rw [if_pos hls]
    have hm : insMayB x = false := by unfold insMayB; rw [hls]; rfl
    have ht0 : t = ⟨#[]⟩ := by rw [← ht, hls]; rfl
    subst ht0
    rw [he, hm, List.append_nil, Bool.and_false]
    have HW := hide hW
    obtain ⟨A0, c0, hbx, -⟩ := hW
    obtain ⟨e1, e2⟩ := (hbx.alloc (.cells #[.int .i64 x.op, .int .i64 x.d, .int .i64 x.a, .int .i64 x.b, .int .i64 x.n, .int .i64 x.m, .slice A x.args.length c] 47)).cell 1 (v := .bool s.2) rfl
    clear hbx hx hls he hm ht hRR
    generalize x.args.length = la at *
    go_enter Tryd.func46, Tryd.ntmps46
    go_wp2_with (go_at_call 23; refine (HP.out _).mono ?_; rintro e w' ⟨rfl, rfl⟩)
    refine bodyPost_ret (results_none rfl _ _ _) rfl ⟨rfl, ?_, ?_⟩
    · exact HW.out.no.below (alloc1 _ _)
    · exact ((Read.refl g w).set (.inr rfl)).alloc _
  · have hlet := partsN_letter x.op
    obtain ⟨hz, hat⟩ := str_at hlet ht
    have hl3 := partsN_len x.op
    have hop0 : 0 ≤ x.op := by
      apply Classical.byContradiction
      intro h0
      exact hls (by unfold partsN; rw [if_pos (by omega)])
    have htn : (t.toList == []) = false := by
      have := strOf_nil hls
      rw [ht] at this
      simpa using this
    have hfin := rins_ok hls
    have hib : insB x = encL [x.op] ++ (partsN x.op).flatMap (encPart x) := by unfold insB; rw [if_neg hls]; rfl
    have hpl := fun c hm => rencPart_len hRR hcnt (c := c) hm
    rw [hib, ← hfin]
    have HR := hide hRR
    have HL := hide hlet
    have HZ := hide hz
    have HAT := hide hat
    have HPL := hide hpl
    have HHAS := hide (fun (c : Nat) (W : World) => rhas_any (partsN x.op) c W hlet (by omega))
    rw [ht] at HHAS
    have h19 := hide (fun (h : 76 ∈ partsN x.op) => by have := parts_call x.op h; rw [insCnt, this] at hcnt; simpa using hcnt : 76 ∈ partsN x.op → x.args.length ≤ 4)
    generalize partsN x.op = ls at *
    clear hz hat hlet hfin hib hpl hRR ht hls
    obtain ⟨la, hla⟩ : ∃ la, x.args.length = la := ⟨_, rfl⟩
    rw [hla] at hx h19 ⊢
    have HLA := hide hla
    clear hla hcnt
    have hl2 := encL_len' [x.op] (by simpa using HR.out.1.1)
    simp only [List.length_singleton] at hl2
    obtain ⟨s2, hs2⟩ : ∃ s2 : List Int × Bool, s2 = (s.1 ++ encL [x.op], s.2 && decide (0 ≤ x.op)) := ⟨_, rfl⟩
    have hr2 : s2.1.length ≤ 1073740010 := by rw [hs2, List.length_append]; omega
    have hgoal : (s.1 ++ (encL [x.op] ++ ls.flatMap (encPart x)), s.2 && (decide (0 ≤ x.op) && (ls.all (okB x) && ([68, 65, 66, 77].all (chk x ls) && chkN x ls)))) = (s2.1 ++ ls.flatMap (encPart x), s2.2 && (ls.all (okB x) && ([68, 65, 66, 77].all (chk x ls) && chkN x ls))) := by
      rw [hs2]; simp only [List.append_assoc, Bool.and_assoc]
    rw [hgoal]
    have HS2 := hide hs2
    clear hgoal hs2 hl2
    go_enter Tryd.func46, Tryd.ntmps46
    go_upto_region 1 with (fail)
    obtain ⟨w1, hw1⟩ : ∃ w1, w1 = w.alloc (.cells #[.int .i64 x.op, .int .i64 x.d, .int .i64 x.a, .int .i64 x.b, .int .i64 x.n, .int .i64 x.m, .slice A la c] 47) := ⟨_, rfl⟩
    have HBX := hide (show Box w1 w.heap.size #[.int .i64 x.op, .int .i64 x.d, .int .i64 x.a, .int .i64 x.b, .int .i64 x.n, .int .i64 x.m, .slice A la c] 47 by rw [hw1]; exact Box.new w _ _)
    have HR1 := hide (show Read g w w1 by rw [hw1]; exact (Read.refl g w).alloc _)
    have HW1 := hide (show RW w1 g s by rw [hw1]; exact hW.below (alloc1 w _))
    have HI1 := hide (show InsI w1 (· < B) (.slice A la c) x by rw [hw1]; exact insI_below hx ((Read.refl g w).alloc _) hB (by omega))
    have hz1 := HBX.out.lt
    rw [← hw1]
    clear hw1 hx hW
    have x0 := (HBX.out.cell 0 (v := .int .i64 x.op) rfl).1
    have HN1 := hide (fun W hW => rnum_any x.op g s W hW HR.out.1.1 (by omega))
    go_upto_region 5 with (first
      | (go_at_call 45; refine (HN1.out w1 HW1.out).mono ?_; rintro e w2 ⟨rfl, hw2, hrd2⟩; rw [← HS2.out] at hw2; have HW2 := hide hw2; have HR2 := hide hrd2; clear hw2 hrd2)
      | (go_at_call 23; refine (HP.out _).mono ?_; rintro e w' ⟨rfl, rfl⟩))
    clear HN1 x0 HP
    go_wp2
    go_loopw [5] (fun i wr => ∃ k : Nat, k ≤ ls.length ∧ i = .int .i64 k ∧ RW wr g (insSt x s2 ls k) ∧ Read g w1 wr) (fun i _ => ls.length - (intOf i).toNat)
    case atStart => exact ⟨0, Nat.zero_le _, rfl, by rw [insSt_zero]; exact HW2.out, HR2.out⟩
    case round =>
      obtain ⟨k, hk, rfl, hw, hr⟩ := hrel
      have hbx := hr.box HBX.out (by omega)
      have hin := insI_below HI1.out hr hB (by omega)
      have hsz := hr.size
      have htz : t.size ≤ 3 := by have := HZ.out; omega
      by_cases hkl : k < ls.length
      · have hkt : k < t.size := by have := HZ.out; omega
        obtain ⟨d, hd⟩ : ∃ d, ls[k]? = some d := ⟨_, List.getElem?_eq_getElem hkl⟩
        have hdt := HAT.out k d hd hkt
        have hstep := insSt_step (x := x) (s := s2) hd
        have hlen := insSt_len (s := s2) HPL.out k
        have hlet := HL.out d (List.mem_of_getElem? hd)
        have hmem := List.mem_of_getElem? hd
        have HSTEP := hide hstep
        have HMEM := hide hmem
        clear hstep hd hmem
        by_cases h110 : d = 110
        · subst h110
          obtain ⟨q, hq⟩ : ∃ q, insSt x s2 ls k = q := ⟨_, rfl⟩
          rw [hq] at hw hlen
          have hst : insSt x s2 ls (k + 1) = (q.1 ++ enc (zz x.n), q.2) := by rw [HSTEP.out, hq]; simp [okB, encPart]
          have HST := hide hst
          obtain ⟨zs, ok⟩ := q
          obtain ⟨A0, c0, g0, g1, g2, g3, g4, g5⟩ := hw.cells
          simp only at g0 g2 g3 g5 hlen
          have HPS := hide (fun q => rputs_any A0 zs.length c0 zs x.n (wr.drewN q) g2 rfl (by omega) HR.out.1.2.2.2.2.1)
          have b4 := (hbx.cell 4 (v := .int .i64 x.n) rfl).1
          have hgl := hw.lt
          have hgh : w.heap.size < wr.heap.size := by omega
          generalize zs.length = n0 at *
          have HBX2 := hide hbx
          have HG3 := hide g3
          have HRD := hide hr
          clear hst HSTEP hq g2 g3 g4 g5 hbx hin hw hlet hr
          go_wp2
          go_region_law
            (first
              | (rw [if_pos (by rfl)]; go_simp; go_at_call 76; refine (HPS.out 1).mono ?_; rintro e w3 ⟨v, rfl, ho, hb3⟩; obtain ⟨A3, c3, hv, -, -, -⟩ := ho.sl; obtain ⟨n3, hn3⟩ : ∃ n3, (zs ++ enc (zz x.n)).length = n3 := ⟨_, rfl⟩; rw [hn3] at hv; subst hv; clear hn3; have hb3' : Below wr.heap.size wr w3 := ⟨hb3.os, hb3.tape, hb3.output, hb3.size, hb3.block⟩; have hg3 := HG3.out.below hb3'; have f0 := (hg3.cell 0 (v := .slice A0 n0 c0) rfl).1; have f1 := (hg3.cell 0 (v := .slice A0 n0 c0) rfl).2; have f4 := ((HBX2.out.below hb3').cell 4 (v := .int .i64 x.n) rfl).1; have hl3 := hg3.lt; have HG4 := hide hg3; have HO := hide ho; have HB3 := hide hb3'; clear ho hb3 hb3' hg3))
          all_goals
            go_wp2
            go_roundw
            case rel => exact ⟨k + 1, by omega, by go_num, by rw [HST.out]; exact RW.stored HG4.out HO.out hgl, (HRD.out.trans (Read.of_below HB3.out)).set (.inr rfl)⟩
            case measure => simp [intOf]; omega
        · by_cases h76 : d = 76
          · subst h76
            obtain ⟨q, hq⟩ : ∃ q, insSt x s2 ls k = q := ⟨_, rfl⟩
            rw [hq] at hw hlen
            have hst : insSt x s2 ls (k + 1) = ((q.1 ++ encL [(la : Int)]) ++ encL x.args, (q.2 && decide (0 ≤ (la : Int))) && x.args.all (fun z => decide (0 ≤ z))) := by rw [HSTEP.out, hq, ← HLA.out]; simp [okB, encPart, List.append_assoc]
            have HST := hide hst
            have hla4 := h19.out HMEM.out
            have hNL := rnum_any (la : Int) g q wr hw (i64R_nat (by omega)) (by omega)
            have hul : (q.1 ++ encL [(la : Int)]).length ≤ 1073741000 := by
              have := encL_len' [(la : Int)] (by simpa using i64R_nat (by omega))
              simp only [List.length_singleton] at this
              rw [List.length_append]; omega
            obtain ⟨u, hu⟩ : ∃ u : List Int × Bool, u = (q.1 ++ encL [(la : Int)], q.2 && decide (0 ≤ (la : Int))) := ⟨_, rfl⟩
            have hul : u.1.length ≤ 1073741000 := by rw [hu]; exact hul
            have hst : insSt x s2 ls (k + 1) = (u.1 ++ encL x.args, u.2 && x.args.all (fun z => decide (0 ≤ z))) := by rw [hu]; exact HST.out
            rw [← hu] at hNL
            have HST := hide hst
            have HNL := hide hNL
            have hgl := hw.lt
            have b6 := (hbx.cell 6 (v := .slice A la c) rfl).1
            have HRD := hide hr
            clear hst HSTEP hq hu hNL hw hin hr hbx hlen hlet
            go_wp2_with (go_at_call 45; refine HNL.out.mono ?_; rintro e w3 ⟨rfl, hw3, hrd3⟩; have HW3 := hide hw3; have HR3 := hide hrd3; clear hw3 hrd3 b6)
            go_loopw [6] (fun i wr => ∃ j : Nat, j ≤ la ∧ i = .int .i64 j ∧ RW wr g (u.1 ++ encL (x.args.take j), u.2 && (x.args.take j).all (fun z => decide (0 ≤ z))) ∧ Read g w1 wr) (fun i _ => la - (intOf i).toNat)
            case atStart => exact ⟨0, Nat.zero_le _, rfl, by simpa [encL] using HW3.out, HRD.out.trans HR3.out⟩
            case round =>
              obtain ⟨j, hj, rfl, hw, hr⟩ := hrel
              have hbx := hr.box HBX.out (by omega)
              have hin := insI_below HI1.out hr hB (by omega)
              have hsz := hr.size
              have b6 := (hbx.cell 6 (v := .slice A la c) rfl).1
              have hgh := hbx.lt
              by_cases hjl : j < la
              · obtain ⟨z, hz⟩ : ∃ z, x.args[j]? = some z := ⟨_, List.getElem?_eq_getElem (by have := HLA.out; omega)⟩
                obtain ⟨b, o, rfl, hb, e0, hzR⟩ := hin.1.get hz
                have hlen3 : (u.1 ++ encL (x.args.take j)).length ≤ 1073741800 := by
                  have := encL_len' (x.args.take j) (fun z hz => HR.out.2 z (List.mem_of_mem_take hz))
                  have h2 : (x.args.take j).length ≤ j := List.length_take_le _ _
                  rw [List.length_append]; omega
                have hNZ := rnum_any z g _ wr hw hzR (by show (u.1 ++ encL (x.args.take j)).length ≤ _; omega)
                rw [args_step hz] at hNZ
                have HNZ := hide hNZ
                have HRD := hide hr
                clear hz hin hw hr hNZ hlen3 hbx
                go_wp2_with (go_at_call 45; refine HNZ.out.mono ?_; rintro e w4 ⟨rfl, hw4, hrd4⟩; have HW4 := hide hw4; have HR4 := hide hrd4; clear hw4 hrd4 b6 e0)
                go_roundw
                case rel => exact ⟨j + 1, by omega, by go_num, HW4.out, HRD.out.trans HR4.out⟩
                case measure => simp [intOf]; omega
              · have hlast := hide (show RW wr g (insSt x s2 ls (k + 1)) by rw [HST.out]; rw [List.take_of_length_le (by have := HLA.out; omega)] at hw; exact hw)
                have HRD := hide hr
                clear hw hin hbx hr
                go_wp2
                go_roundw
                case rel => exact ⟨k + 1, by omega, by go_num, hlast.out, HRD.out⟩
                case measure => simp [intOf]; omega
          · obtain ⟨q, hq⟩ : ∃ q, insSt x s2 ls k = q := ⟨_, rfl⟩
            rw [hq] at hw hlen
            have hst : insSt x s2 ls (k + 1) = (q.1 ++ encL [fieldOf d x], q.2 && decide (0 ≤ fieldOf d x)) := by rw [HSTEP.out, hq, (encPart_f h110 h76).1, (encPart_f h110 h76).2]
            have HST := hide hst
            have hF := fun q => rfield_any x A la c d (wr.drewN q) hlet
            have hN := fun (W : World) (hW : Below wr.heap.size wr W) => rnum_any (fieldOf d x) g q W (hw.below hW) (fieldOf_R HR.out.1 d) (by omega)
            generalize fieldOf d x = fd at *
            have HF := hide hF
            have HN := hide hN
            have b0 := (hbx.cell 0 (v := .int .i64 x.op) rfl).1
            have b1 := (hbx.cell 1 (v := .int .i64 x.d) rfl).1
            have b2 := (hbx.cell 2 (v := .int .i64 x.a) rfl).1
            have b3 := (hbx.cell 3 (v := .int .i64 x.b) rfl).1
            have b4 := (hbx.cell 4 (v := .int .i64 x.n) rfl).1
            have b5 := (hbx.cell 5 (v := .int .i64 x.m) rfl).1
            have b6 := (hbx.cell 6 (v := .slice A la c) rfl).1
            have hgh := hbx.lt
            have HBX2 := hide hbx
            have HS0 := hide (SBox.of hbx)
            have HRD := hide hr
            have n110 : ((d : Int) == 110) = false := by simp; omega
            have n76 : ((d : Int) == 76) = false := by simp; omega
            clear hst HSTEP hq hF hN hw hin hr hbx hlen hlet h110 h76
            go_wp2
            go_region_held3 (fun w' => w'.cell? ⟨w.heap.size, 0, none⟩ = some (.int .i64 x.op) ∧ w'.cell? ⟨w.heap.size, 1, none⟩ = some (.int .i64 x.d) ∧ w'.cell? ⟨w.heap.size, 2, none⟩ = some (.int .i64 x.a) ∧ w'.cell? ⟨w.heap.size, 3, none⟩ = some (.int .i64 x.b) ∧ w'.cell? ⟨w.heap.size, 4, none⟩ = some (.int .i64 x.n) ∧ w'.cell? ⟨w.heap.size, 5, none⟩ = some (.int .i64 x.m) ∧ w'.cell? ⟨w.heap.size, 6, none⟩ = some (.slice A la c)) (first | go_keep | (exact HS0.out) | (exact hs3) | (exact hs4))
              (first
                | (go_at_call 45; refine (HN.out w3 HB3.out).mono ?_; rintro e w4 ⟨rfl, hw4, hrd4⟩; have hs4 := SBox.of (hrd4.box HBX3.out (by omega)); have HW4 := hide hw4; have HR4 := hide hrd4; clear hw4 hrd4)
                | (go_at_call 77; refine (HF.out 1).mono ?_; rintro e w3 ⟨rfl, hb3⟩; have HB3 := hide (show Below wr.heap.size wr w3 from ⟨hb3.os, hb3.tape, hb3.output, hb3.size, hb3.block⟩); have HBX3 := hide (HBX2.out.below HB3.out); have hs3 := SBox.of HBX3.out; clear hb3))
            go_wp2
            go_roundw
            case rel => exact ⟨k + 1, by omega, by go_num, by rw [HST.out]; exact HW4.out, HRD.out.trans ((Read.of_below HB3.out).trans HR4.out)⟩
            case measure => simp [intOf]; omega
      · have hkt : ¬ k < t.size := by have := HZ.out; omega
        rw [insSt_end (by omega)] at hw
        obtain ⟨q, hq⟩ : ∃ q : List Int × Bool, q = (s2.1 ++ ls.flatMap (encPart x), s2.2 && ls.all (okB x)) := ⟨_, rfl⟩
        rw [← hq] at hw
        have HFIN := hide (show ∀ a b : Bool, (q.1, (q.2 && a) && b) = (s2.1 ++ ls.flatMap (encPart x), s2.2 && (ls.all (okB x) && (a && b))) from fun a b => by rw [hq]; simp [Bool.and_assoc])
        have HWQ := hide hw
        have HRQ := hide hr
        obtain ⟨tl, htl⟩ : ∃ tl, strOf [68, 65, 66, 77] = tl := ⟨_, rfl⟩
        obtain ⟨hlz, hlat⟩ := str_at (l := [68, 65, 66, 77]) (by unfold isLetter; simp) htl
        have HTL := hide htl
        have HLAT := hide hlat
        have hlz4 : tl.size = 4 := hlz
        have HL4 := hide hlz4
        clear hq hw hr hbx hin htl hlz hlat hlz4
        go_wp2
        rw [show (⟨#[68, 65, 66, 77]⟩ : ByteArray) = tl by rw [← HTL.out]; rfl]
        go_loopw [8] (fun i wr => ∃ k : Nat, k ≤ 4 ∧ i = .int .i64 k ∧ RW wr g (q.1, q.2 && (([68, 65, 66, 77] : List Nat).take k).all (chk x ls)) ∧ Read g w1 wr) (fun i _ => 4 - (intOf i).toNat)
        case atStart => exact ⟨0, Nat.zero_le _, rfl, by simpa using HWQ.out, HRQ.out⟩
        case round =>
          obtain ⟨k, hk, rfl, hw, hr⟩ := hrel
          have hbx := hr.box HBX.out (by omega)
          have hsz := hr.size
          have hgh := hbx.lt
          have hgl := hw.lt
          by_cases hk4 : k < 4
          · have hkt : k < tl.size := by have := HL4.out; omega
            obtain ⟨d, hd⟩ : ∃ d, ([68, 65, 66, 77] : List Nat)[k]? = some d := ⟨_, List.getElem?_eq_getElem (by simpa using hk4)⟩
            have hdt := HLAT.out k d hd hkt
            have hlet : isLetter d := by
              have := List.mem_of_getElem? hd
              simp at this
              unfold isLetter; omega
            have hst : ∀ b, chk x ls d = b → (q.1, (q.2 && (([68, 65, 66, 77] : List Nat).take k).all (chk x ls)) && b) = (q.1, q.2 && (([68, 65, 66, 77] : List Nat).take (k + 1)).all (chk x ls)) := fun b hb => by
              rw [← hb, List.take_add_one, hd]; simp [Bool.and_assoc]
            have HST := hide hst
            have hH := HHAS.out d
            have HF := hide (fun q => rfield_any x A la c d (wr.drewN q) hlet)
            have HBX2 := hide hbx
            have HS0 := hide (SBox.of hbx)
            have b0 := (hbx.cell 0 (v := .int .i64 x.op) rfl).1
            have b1 := (hbx.cell 1 (v := .int .i64 x.d) rfl).1
            have b2 := (hbx.cell 2 (v := .int .i64 x.a) rfl).1
            have b3 := (hbx.cell 3 (v := .int .i64 x.b) rfl).1
            have b4 := (hbx.cell 4 (v := .int .i64 x.n) rfl).1
            have b5 := (hbx.cell 5 (v := .int .i64 x.m) rfl).1
            have b6 := (hbx.cell 6 (v := .slice A la c) rfl).1
            have HW := hide hw
            have HRD := hide hr
            have hf1 := hw.cells
            obtain ⟨A0, c0, -, -, -, -, g4, g5⟩ := hf1
            simp only at g5
            clear hst hd hlet hbx hw hr
            by_cases hin : d ∈ ls
            · rw [decide_eq_true hin] at hH
              have HH := hide hH
              have hnext := HST.out true (by unfold chk; rw [decide_eq_true hin]; rfl)
              rw [Bool.and_true] at hnext
              have HNX := hide hnext
              clear hH hin hnext g5
              go_wp2
              go_quiet ((go_at_call 78; exact Calls.quiet_of_same ((HH.out _).mono fun e w' ⟨h1, h2⟩ => ⟨h1, h2.symm⟩)))
              go_wp2
              go_roundw
              case rel => exact ⟨k + 1, by omega, by go_num, by rw [← HNX.out]; exact HW.out.drewN _, HRD.out.drewN _⟩
              case measure => simp [intOf]; omega
            · rw [decide_eq_false hin] at hH
              have HH := hide hH
              have hchk : chk x ls d = decide (fieldOf d x = 0) := by unfold chk; rw [decide_eq_false hin]; rfl
              rw [hchk] at HST
              clear hH hin hchk
              generalize fieldOf d x = fd at *
              by_cases hfd : fd = 0
              · subst hfd
                have hnext := HST.out true (by simp)
                rw [Bool.and_true] at hnext
                have HNX := hide hnext
                clear hnext g5
                go_wp2
                go_region_held3 (fun w' => w'.cell? ⟨w.heap.size, 0, none⟩ = some (.int .i64 x.op) ∧ w'.cell? ⟨w.heap.size, 1, none⟩ = some (.int .i64 x.d) ∧ w'.cell? ⟨w.heap.size, 2, none⟩ = some (.int .i64 x.a) ∧ w'.cell? ⟨w.heap.size, 3, none⟩ = some (.int .i64 x.b) ∧ w'.cell? ⟨w.heap.size, 4, none⟩ = some (.int .i64 x.n) ∧ w'.cell? ⟨w.heap.size, 5, none⟩ = some (.int .i64 x.m) ∧ w'.cell? ⟨w.heap.size, 6, none⟩ = some (.slice A la c)) (first | go_keep | (exact HS0.out) | (exact hs3))
                  (first
                    | (go_at_call 77; refine (HF.out 1).mono ?_; rintro e w3 ⟨rfl, hb3⟩; have HB3 := hide (show Below wr.heap.size wr w3 from ⟨hb3.os, hb3.tape, hb3.output, hb3.size, hb3.block⟩); have HBX3 := hide (HBX2.out.below HB3.out); have hs3 := SBox.of HBX3.out; clear hb3)
                    | (go_at_call 78; refine (HH.out _).mono ?_; rintro e w' ⟨rfl, rfl⟩))
                go_wp2
                go_roundw
                case rel => exact ⟨k + 1, by omega, by go_num, by rw [← HNX.out]; exact HW.out.below HB3.out, HRD.out.trans (Read.of_below HB3.out)⟩
                case measure => simp [intOf]; omega
              · have hnext := HST.out false (by simpa using hfd)
                rw [Bool.and_false] at hnext
                have HNX := hide hnext
                have hfb : (fd != 0) = true := by simpa using hfd
                clear hnext hfd g4 g5
                go_wp2
                go_region_held3 (fun w' => w'.cell? ⟨w.heap.size, 0, none⟩ = some (.int .i64 x.op) ∧ w'.cell? ⟨w.heap.size, 1, none⟩ = some (.int .i64 x.d) ∧ w'.cell? ⟨w.heap.size, 2, none⟩ = some (.int .i64 x.a) ∧ w'.cell? ⟨w.heap.size, 3, none⟩ = some (.int .i64 x.b) ∧ w'.cell? ⟨w.heap.size, 4, none⟩ = some (.int .i64 x.n) ∧ w'.cell? ⟨w.heap.size, 5, none⟩ = some (.int .i64 x.m) ∧ w'.cell? ⟨w.heap.size, 6, none⟩ = some (.slice A la c)) (first | go_keep | (exact HS0.out) | (exact hs3))
                  (first
                    | (go_at_call 77; refine (HF.out 1).mono ?_; rintro e w3 ⟨rfl, hb3⟩; have HB3 := hide (show Below wr.heap.size wr w3 from ⟨hb3.os, hb3.tape, hb3.output, hb3.size, hb3.block⟩); have HBX3 := hide (HBX2.out.below HB3.out); have hs3 := SBox.of HBX3.out; clear hb3)
                    | (go_at_call 78; refine (HH.out _).mono ?_; rintro e w' ⟨rfl, rfl⟩))
                have HW3 := hide (HW.out.below HB3.out)
                obtain ⟨A0, c0, -, -, -, -, g4, g5⟩ := HW3.out.cells
                have hl3 := HW3.out.lt
                go_wp2
                go_roundw
                case rel => exact ⟨k + 1, by omega, by go_num, by rw [← HNX.out]; exact HW3.out.no, (HRD.out.trans (Read.of_below HB3.out)).set (.inr rfl)⟩
                case measure => simp [intOf]; omega
          · have hall : (([68, 65, 66, 77] : List Nat).take k) = [68, 65, 66, 77] := List.take_of_length_le (by simp; omega)
            rw [hall] at hw
            have hA1 : ∀ W : World, Calls Tryd.prog 78 #[.string t, .int .u8 78] W fun e w' => e = .returned (.bool (decide (78 ∈ ls))) ∧ W = w' := fun W => HHAS.out 78 W
            have hA2 : ∀ W : World, Calls Tryd.prog 78 #[.string t, .int .u8 110] W fun e w' => e = .returned (.bool (decide (110 ∈ ls))) ∧ W = w' := fun W => HHAS.out 110 W
            have hA3 : ∀ W : World, Calls Tryd.prog 78 #[.string t, .int .u8 76] W fun e w' => e = .returned (.bool (decide (76 ∈ ls))) ∧ W = w' := fun W => HHAS.out 76 W
            have HF2 := hide (fun (b : Bool) (hb : chkN x ls = b) => hb ▸ HFIN.out (([68, 65, 66, 77] : List Nat).all (chk x ls)) (chkN x ls) : ∀ b : Bool, chkN x ls = b → (q.1, (q.2 && ([68, 65, 66, 77] : List Nat).all (chk x ls)) && b) = (s2.1 ++ ls.flatMap (encPart x), s2.2 && (ls.all (okB x) && (([68, 65, 66, 77] : List Nat).all (chk x ls) && chkN x ls))))
            have b4 := (hbx.cell 4 (v := .int .i64 x.n) rfl).1
            have b6 := (hbx.cell 6 (v := .slice A la c) rfl).1
            have HW := hide hw
            have HRD := hide hr
            obtain ⟨A0, c0, -, -, -, -, g4, g5⟩ := hw.cells
            simp only at g5
            have hN : chkN x ls = ((decide (78 ∈ ls) || (decide (110 ∈ ls) || decide (x.n = 0))) && (decide (76 ∈ ls) || decide (la = 0))) := by unfold chkN; rw [HLA.out]
            have HCN := hide hN
            generalize decide (78 ∈ ls) = bN at *
            generalize decide (110 ∈ ls) = bn at *
            generalize decide (76 ∈ ls) = bL at *
            generalize x.n = xn at *
            have H1 := hide hA1; have H2 := hide hA2; have H3 := hide hA3
            clear hA1 hA2 hA3 hw hr hbx hall hN
            go_wp2_with (first
              | (go_at_call 78; (with_reducible refine (H1.out _).mono ?_); rintro e w' ⟨rfl, rfl⟩)
              | (go_at_call 78; (with_reducible refine (H2.out _).mono ?_); rintro e w' ⟨rfl, rfl⟩)
              | (go_at_call 78; (with_reducible refine (H3.out _).mono ?_); rintro e w' ⟨rfl, rfl⟩))
            all_goals go_end0
            all_goals first
              | (have hb : chkN x ls = true := by
                  rw [HCN.out, Bool.and_eq_true, Bool.or_eq_true, Bool.or_eq_true, Bool.or_eq_true, decide_eq_true_eq, decide_eq_true_eq]
                  exact ⟨by first | exact .inl ‹_› | exact .inr (.inl ‹_›) | exact .inr (.inr ‹_›), by first | exact .inl ‹_› | (right; omega)⟩
                 have hf := HF2.out true hb
                 rw [Bool.and_true] at hf
                 exact ⟨rfl, by rw [← hf]; exact HW.out, HR1.out.trans HRD.out⟩)
              | (have hb : chkN x ls = false := by
                  rw [HCN.out]
                  refine Bool.eq_false_iff.2 fun h => ?_
                  rw [Bool.and_eq_true, Bool.or_eq_true, Bool.or_eq_true, Bool.or_eq_true, decide_eq_true_eq, decide_eq_true_eq] at h
                  obtain ⟨h1, h2⟩ := h
                  first
                    | (rcases h2 with h2 | h2
                       · contradiction
                       · omega)
                    | (rcases h1 with h1 | h1 | h1
                       · contradiction
                       · contradiction
                       · contradiction)
                 have hf := HF2.out false hb
                 rw [Bool.and_false] at hf
                 exact ⟨rfl, by rw [← hf]; exact HW.out.no, (HR1.out.trans HRD.out).set (.inr rfl)⟩)
end Go.Proofs.YtpgljbjgbjjcnaaDoor
