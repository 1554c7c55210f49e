/- Layer 13, the program: copied: a function alike, of its own memory. Condition: no more than 1000 variables, blocks, instructions and arguments. -/
import Derived.Test.YtnoknodijombpaaDoorPhDD
import Derived.Deep.CutRange
set_option linter.unusedSimpArgs false
set_option linter.unusedVariables false
namespace Go.Proofs.YtnoknodijombpaaDoor
open Go.RowKit

set_option maxHeartbeats 4000000 in
set_option maxRecDepth 100000 in
theorem ecopied_any (vk vb vs : Value) (f : FunV) (w : World) (B : Nat) (hB : B ≤ w.heap.size) (hi : FunI w (· < B) vk vb vs f) (hk : f.kinds.length ≤ 1000) (hbl : f.base.length ≤ 1000) (hls : f.blocks.length ≤ 1000) (hls1 : 1 ≤ f.blocks.length) (hcode : ∀ l ∈ f.blocks, 1 ≤ l.length ∧ l.length ≤ 1000 ∧ ∀ x ∈ l, x.args.length ≤ 1000) :
    Calls Tryd.prog 17 #[.agg #[vk, vb, .int .i64 f.params, .int .i64 f.result, vs]] w fun e w' => ∃ vk' vb' vs' l, e = .returned (.agg #[vk', vb', .int .i64 f.params, .int .i64 f.result, vs']) ∧ Ow w' w.heap.size 3 .i64 vk' f.kinds ∧ Ow w' w.heap.size 3 .i64 vb' f.base ∧ BlkM w' w.heap.size vs' l ∧ l.map (·.1) = f.blocks ∧ Below w.heap.size w w' := by
  have HCK := hide (fun (W : World) (hW : Below w.heap.size w W) => hclonei_any vk f.kinds W B (by have := hW.size; omega) (hi.1.keep (up hW hB) (fun _ h => h)) (by omega))
  have HCB := hide (fun (W : World) (hW : Below w.heap.size w W) => hclonei_any vb f.base W B (by have := hW.size; omega) (hi.2.1.keep (up hW hB) (fun _ h => h)) (by omega))
  have HCS := hide (fun (W : World) (hW : Below w.heap.size w W) => bclone_any vs f.blocks W (· < B) (fun b hb => by have := hW.size; omega) (hi.2.2.1.keep (up hW hB) (fun _ h => h)) (by omega))
  have HBB := hide hB
  have HCI := hide (fun (W : World) (u : Value) (l : List InsV) (hl : l.length ≤ 1000) (hB : B ≤ W.heap.size) (h : InssV W (· < B) u l) => iclone_any u l W (· < B) (fun b hb => by omega) h (by omega))
  have HCA := hide (fun (W : World) (va : Value) (xs : List Int) (hB : B ≤ W.heap.size) (hx : IntsV W (· < B) va xs) (hl : xs.length ≤ 1000) => hclonei_any va xs W B hB hx (by omega))
  obtain ⟨Ak, ck, rfl, hck, hmk⟩ := hi.1.open'
  obtain ⟨Ab, cb, rfl, hcb, hmb⟩ := hi.2.1.open'
  obtain ⟨As, cs, rfl, hcs, hms⟩ := hi.2.2.1.open'
  obtain ⟨ls, hlse⟩ : ∃ ls, f.blocks.length = ls := ⟨_, rfl⟩
  have HLS := hide hlse
  rw [hlse] at HCS hcs hls hls1 ⊢
  obtain ⟨bs, hbs⟩ : ∃ bs, f.blocks = bs := ⟨_, rfl⟩
  rw [hbs] at HCS hcode HLS ⊢
  have HCODE := hide hcode
  obtain ⟨ks, hks⟩ : ∃ ks, f.kinds = ks := ⟨_, rfl⟩
  obtain ⟨es, hes⟩ : ∃ es, f.base = es := ⟨_, rfl⟩
  rw [hks] at HCK hk hck ⊢
  rw [hes] at HCB hbl hcb ⊢
  obtain ⟨lk, hlk⟩ : ∃ lk, ks.length = lk := ⟨_, rfl⟩
  obtain ⟨lb, hlb⟩ : ∃ lb, es.length = lb := ⟨_, rfl⟩
  have HLK := hide hlk
  have HLB := hide hlb
  rw [hlk] at HCK hk hck ⊢
  rw [hlb] at HCB hbl hcb ⊢
  clear hi hbs hks hes hlk hlb hcode hlse hB
  generalize f.params = fp, f.result = fr at *
  go_enter Tryd.func17, Tryd.ntmps17
  go_upto_region 1 with (fail)
  obtain ⟨w1, hw1⟩ : ∃ w1, w1 = (w.alloc (.cells #[.slice Ak lk ck, .slice Ab lb cb, .int .i64 fp, .int .i64 fr, .slice As ls cs] 34)).alloc (.cells #[.slice none 0 0, .slice none 0 0, .int .i64 0, .int .i64 0, .slice none 0 0] 34) := ⟨_, rfl⟩
  obtain ⟨h1, hh1⟩ : ∃ h1, w.heap.size = h1 := ⟨_, rfl⟩
  have HX1 := hide (show Box w1 h1 #[.slice Ak lk ck, .slice Ab lb cb, .int .i64 fp, .int .i64 fr, .slice As ls cs] 34 by rw [hw1, ← hh1]; exact (Box.new w _ _).alloc _)
  have HY1 := hide (show Box w1 (h1 + 1) #[.slice none 0 0, .slice none 0 0, .int .i64 0, .int .i64 0, .slice none 0 0] 34 by
    have t := Box.new (w.alloc (.cells #[.slice Ak lk ck, .slice Ab lb cb, .int .i64 fp, .int .i64 fr, .slice As ls cs] 34)) #[.slice none 0 0, .slice none 0 0, .int .i64 0, .int .i64 0, .slice none 0 0] 34
    rw [World.size_alloc, hh1] at t
    rw [hw1]
    exact t)
  have HB1 := hide (show Below w.heap.size w w1 by rw [hw1]; exact alloc2 w _ _)
  have w1s := HB1.out.size
  have lX1 := HX1.out.lt
  have lY1 := HY1.out.lt
  have HH1 := hide hh1
  rw [← hw1, hh1]
  clear hw1 hh1
  have HKX := hide (fun (W : World) (hW : Below w1.heap.size w1 W) => (show (W.cell? ⟨h1, 0, none⟩ = some (.slice Ak lk ck) ∧ W.frozen? ⟨h1, 0, none⟩ = false) ∧ (W.cell? ⟨h1, 1, none⟩ = some (.slice Ab lb cb) ∧ W.frozen? ⟨h1, 1, none⟩ = false) ∧ (W.cell? ⟨h1, 4, none⟩ = some (.slice As ls cs) ∧ W.frozen? ⟨h1, 4, none⟩ = false) from
    ⟨(HX1.out.below hW).cell 0 (v := .slice Ak lk ck) rfl, (HX1.out.below hW).cell 1 (v := .slice Ab lb cb) rfl, (HX1.out.below hW).cell 4 (v := .slice As ls cs) rfl⟩))
  go_cut [] from 6 (fun wx => ∃ A1 c1 A2 c2 Ac cc q, FcW fp fr ks es bs B w.heap.size h1 (.slice A1 lk c1) (.slice A2 lb c2) (.slice Ac ls cc) 0 q w wx)
  case first =>
    obtain ⟨⟨c0, f0⟩, ⟨c1, f1⟩, ⟨c4, f4⟩⟩ := HKX.out w1 (Below.refl _ _)
    go_region_with (first
      | (go_at_call 30; refine (HCS.out wb (HB1.out.trans (HCb.out.mono w1s))).mono ?_; rintro e wc ⟨vc, qc, rfl, hoc, hqc, hrc, hbc⟩; obtain ⟨Ac, cc, hvc, -, -⟩ := hoc.sl; have hqn : qc.length = ls := (by have := congrArg List.length hqc; rw [List.length_map, HLS.out] at this; exact this); rw [hqn] at hvc; subst hvc; have HQN := hide hqn; clear hqn; have hcc := HCb.out.trans (hbc.mono HCb.out.size); obtain ⟨⟨c0c, f0c⟩, ⟨c1c, f1c⟩, ⟨c4c, f4c⟩⟩ := HKX.out wc hcc; have HCc := hide hcc; have HOC := hide hoc; have HQC := hide hqc; have HRC := hide hrc; have HBC := hide hbc; have lc := hcc.size; clear hoc hqc hrc hbc hcc)
      | (go_at_call 29; refine (HCB.out wa (HB1.out.trans (HCa.out.mono w1s))).mono ?_; rintro e wb ⟨vb', rfl, hob, hbb⟩; obtain ⟨A2, c2', hvb, -, -, -⟩ := hob.sl; rw [HLB.out] at hvb; subst hvb; have hcb' := HCa.out.trans (hbb.mono HCa.out.size); obtain ⟨⟨c0b, f0b⟩, ⟨c1b, f1b⟩, ⟨c4b, f4b⟩⟩ := HKX.out wb hcb'; have HCb := hide hcb'; have HOB := hide hob; have HBBb := hide hbb; have lb' := hcb'.size; clear hob hbb hcb')
      | (go_at_call 29; refine (HCK.out (w1.drewN 1) (below_drewN HB1.out 1)).mono ?_; rintro e wa ⟨va', rfl, hoa, hba⟩; obtain ⟨A1, c1', hva, -, -, -⟩ := hoa.sl; rw [HLK.out] at hva; subst hva; have hca : Below w1.heap.size w1 wa := ⟨hba.os, hba.tape, hba.output, hba.size, hba.block⟩; obtain ⟨⟨c0a, f0a⟩, ⟨c1a, f1a⟩, ⟨c4a, f4a⟩⟩ := HKX.out wa hca; have HCa := hide hca; have HOA := hide hoa; have la' := hca.size; clear hoa hba hca))
    all_goals
      have HE := hide (cpw_start HH1.out (by have := HBB.out; have := HH1.out; omega) (by omega) HB1.out HCc.out HX1.out HY1.out ((HOA.out.below HBBb.out).below HBC.out |>.lower (by first | exact Nat.le_refl _ | omega)) (HOB.out.below HBC.out |>.lower (by first | exact Nat.le_refl _ | omega)) (HOC.out.lower (by first | exact Nat.le_refl _ | omega)) HQC.out (fun p hp => (HRC.out p hp).keep (fun x o hx => World.cell?_of_block (a := ⟨x, o, none⟩) (HBC.out.block x (by have : x < B := hx; have := HBB.out; omega))) (fun _ h => h)))
      go_wp2_with fail
      go_meet
      case rel => exact ⟨_, _, _, _, _, _, _, HE.out⟩
  case rest =>
    obtain ⟨A1, c1, A2, c2, Ac, cc, q0, hcp⟩ := hcut
    have HCP := hide hcp
    have hlq0 : q0.length = ls := by rw [hcp.o.len, HLS.out]
    obtain ⟨gc, capc, hvc, hgc1, hgc2, -, -, -⟩ := hcp.o.own.blk (by omega)
    rw [hlq0] at hvc
    injection hvc with hA hcn hcc
    subst hA
    subst hcc
    clear hcp hlq0 hcn
    have hBw : B ≤ w.heap.size := HBB.out
    obtain ⟨d0, f0⟩ := HCP.out.bx.cell 4 (v := .slice (some ⟨gc, 0, none⟩) ls cc) rfl
    have lx0 := HCP.out.bx.lt
    go_wp2
    clear d0 f0
    go_loopw [21] (fun i wr => ∃ (b : Nat) (q : List (List InsV × Value)), b ≤ ls ∧ i = .int .i64 (b : Int) ∧ Hid (FcW fp fr ks es bs B w.heap.size h1 (.slice A1 lk c1) (.slice A2 lb c2) (.slice (some ⟨gc, 0, none⟩) ls cc) b q w wr)) (fun i _ => ls - (intOf i).toNat)
    case atStart => exact ⟨0, q0, Nat.zero_le _, rfl, HCP⟩
    case round =>
      obtain ⟨b, q, hb, rfl, HCQ⟩ := hrel
      obtain ⟨wo, rfl⟩ : ∃ wo, wo = wr := ⟨_, rfl⟩
      have hwo := HCQ.out.bel.size
      have hql : q.length = ls := by rw [HCQ.out.o.len, HLS.out]
      have HQL := hide hql
      obtain ⟨x0, f0⟩ := HCQ.out.bx.cell 0 (v := .slice A1 lk c1) rfl
      obtain ⟨x1, f1⟩ := HCQ.out.bx.cell 1 (v := .slice A2 lb c2) rfl
      obtain ⟨x2, f2⟩ := HCQ.out.bx.cell 2 (v := .int .i64 fp) rfl
      obtain ⟨x3, f3⟩ := HCQ.out.bx.cell 3 (v := .int .i64 fr) rfl
      obtain ⟨x4, f4⟩ := HCQ.out.bx.cell 4 (v := .slice (some ⟨gc, 0, none⟩) ls cc) rfl
      have lx := HCQ.out.bx.lt
      have ly := HCQ.out.bz.lt
      by_cases hlt : b < ls
      case neg =>
        obtain rfl : ls = b := by omega
        have hnl : ¬ ((ls : Int) < (ls : Int)) := by omega
        obtain ⟨y0, g0⟩ := HCQ.out.bz.cell 0 (v := .slice none 0 0) rfl
        obtain ⟨y1, g1⟩ := HCQ.out.bz.cell 1 (v := .slice none 0 0) rfl
        obtain ⟨y2, g2⟩ := HCQ.out.bz.cell 2 (v := .int .i64 0) rfl
        obtain ⟨y3, g3⟩ := HCQ.out.bz.cell 3 (v := .int .i64 0) rfl
        obtain ⟨y4, g4⟩ := HCQ.out.bz.cell 4 (v := .slice none 0 0) rfl
        have HZ := hide (HCQ.out.bz.end5 (v0 := .slice A1 lk c1) (v1 := .slice A2 lb c2) (v2 := .int .i64 fp) (v3 := .int .i64 fr) (v4 := .slice (some ⟨gc, 0, none⟩) ls cc))
        have HOA := hide (HCQ.out.ok.end5 (v0 := .slice A1 lk c1) (v1 := .slice A2 lb c2) (v2 := .int .i64 fp) (v3 := .int .i64 fr) (v4 := .slice (some ⟨gc, 0, none⟩) ls cc) HCQ.out.bz.tb)
        have HOB := hide (HCQ.out.oe.end5 (v0 := .slice A1 lk c1) (v1 := .slice A2 lb c2) (v2 := .int .i64 fp) (v3 := .int .i64 fr) (v4 := .slice (some ⟨gc, 0, none⟩) ls cc) HCQ.out.bz.tb)
        have HBM := hide ((HCQ.out.o.done (by omega)).end5 (v0 := .slice A1 lk c1) (v1 := .slice A2 lb c2) (v2 := .int .i64 fp) (v3 := .int .i64 fr) (v4 := .slice (some ⟨gc, 0, none⟩) ls cc) HCQ.out.bz.tb)
        have HBE := hide (end5_below (h := h1 + 1) (v0 := .slice A1 lk c1) (v1 := .slice A2 lb c2) (v2 := .int .i64 fp) (v3 := .int .i64 fr) (v4 := .slice (some ⟨gc, 0, none⟩) ls cc) HCQ.out.bel (by have := HH1.out; omega))
        have HALL := hide HCQ.out.o.all
        go_wp2
        (try simp only [Exit.inBlock, Exit.then])
        refine bodyPost_ret (results_cell_row rfl _ _ (h1 + 1) 34 #[.slice A1 lk c1, .slice A2 lb c2, .int .i64 fp, .int .i64 fr, .slice (some ⟨gc, 0, none⟩) ls cc] (0, 0) _ (by rfl) HZ.out Tryd.underlying34 rfl size_func) rfl ?_
        exact ⟨_, _, _, rfl, HOA.out, HOB.out, q, HBM.out, HALL.out, HBE.out⟩
      have HLT := hide hlt
      obtain ⟨⟨lc, u⟩, hp⟩ : ∃ p, q[b]? = some p := ⟨_, List.getElem?_eq_getElem (by omega)⟩
      have HP := hide hp
      have hold := HCQ.out.o.old b _ hp (Nat.le_refl _)
      have hmem := HCODE.out lc (HCQ.out.o.mem hp)
      have HMEM := hide hmem
      obtain ⟨n, hn⟩ : ∃ n, lc.length = n := ⟨_, rfl⟩
      have HN := hide hn
      obtain ⟨Au, cu, hu, -, -⟩ := hold.open'
      simp only at hu
      rw [hn] at hu
      subst hu
      have HOLD := hide hold
      obtain ⟨d1, e1⟩ := HCQ.out.o.own.at' hql (fun _ => rfl) hp (i := 0) (by omega)
      rw [Nat.mul_one, Nat.add_zero] at d1 e1
      have d1' : wo.cell? ⟨gc, b, none⟩ = some (.slice Au n cu) := d1
      have lgc := (HCQ.out.o.own.lt gc rfl).2
      have hb0 : (0 : Int) ≤ (b : Int) := by omega
      have hb1 : (b : Int) < (ls : Int) := by omega
      have HCL := hide (HCI.out wo (.slice Au n cu) lc hmem.2.1 (by omega) hold)
      have hn1 : 1 ≤ n := by omega
      have hn2 : n ≤ 1000 := by omega
      clear d1 hold hmem hp hn hql
      go_upto_region 6 with (go_at_call 31; (with_reducible refine HCL.out.mono ?_); rintro e w2 ⟨v2, qi, rfl, ho2, hqi, hri, hb2⟩; have HO2 := hide ho2; have HQI := hide hqi; have HRI := hide hri; have HB2 := hide hb2; clear ho2 hqi hri hb2)
      have hqil : qi.length = n := by have := congrArg List.length HQI.out; rw [List.length_map, HN.out] at this; exact this
      obtain ⟨g4, c4, hv2, hg41, hg42, -, -, -⟩ := HO2.out.blk (by omega)
      rw [hqil] at hv2
      subst hv2
      have HI0 := hide (show CpI B wo.heap.size lc (.slice (some ⟨g4, 0, none⟩) n c4) 0 qi w2 from ⟨HO2.out, HQI.out, fun i r _ h => by omega, fun i r hi _ => (HRI.out r (List.mem_of_getElem? hi)).keep (fun x o hx => World.cell?_of_block (a := ⟨x, o, none⟩) (HB2.out.block x (by have : x < B := hx; omega))) (fun _ h => h)⟩)
      clear x0 x1 x2 x3 x4 f0 f1 f2 f3 f4 d1' e1 hqil
      go_wp2
      go_loopw [33] (fun i wr => ∃ (k : Nat) (qk : List (InsV × Value)), k ≤ n ∧ i = .int .i64 (k : Int) ∧ Hid (CpI B wo.heap.size lc (.slice (some ⟨g4, 0, none⟩) n c4) k qk wr) ∧ Below wo.heap.size wo wr) (fun i _ => n - (intOf i).toNat)
      case atStart => exact ⟨0, qi, Nat.zero_le _, rfl, HI0, HB2.out⟩
      case round =>
        obtain ⟨k, qk, hk', rfl, HCK2, hbk⟩ := hrel
        obtain ⟨wk, rfl⟩ : ∃ wk, wk = wr := ⟨_, rfl⟩
        have HBK := hide hbk
        have lwk := hbk.size
        clear hbk
        have hqkl : qk.length = n := by rw [HCK2.out.len, HN.out]
        have HQKL := hide hqkl
        have lg4 := (HCK2.out.own.lt g4 rfl).2
        have HCW := hide (HCQ.out.below (by omega) HBK.out)
        by_cases hltk : k < n
        case neg =>
          obtain rfl : n = k := by omega
          have hnl : ¬ ((n : Int) < (n : Int)) := by omega
          have HCM := hide (HCK2.out.done (by omega))
          obtain ⟨x4, f4⟩ := HCW.out.bx.cell 4 (v := .slice (some ⟨gc, 0, none⟩) ls cc) rfl
          have lx4 := HCW.out.bx.lt
          obtain ⟨d1, e1⟩ := HCW.out.o.own.at' HQL.out (fun _ => rfl) HP.out (i := 0) (by omega)
          rw [Nat.mul_one, Nat.add_zero] at d1 e1
          have d2 : wk.cell? ⟨gc, b, none⟩ = some (.slice Au n cu) := d1
          have lgck : gc < wk.heap.size := by omega
          have HST := hide (HCW.out.step (Nat.le_refl _) HQL.out (wo := wo) (by omega) lwk hBw (fun i p hi hib x hx => ((HCQ.out.o.new i p hi hib).own x hx).2.lt) HP.out (HCM.out.lower hwo) hg41)
          clear d1 hqkl
          go_wp2
          go_roundw
          case rel => exact ⟨b + 1, _, by have := HLT.out; omega, by go_num, HST⟩
          case measure => have := HLT.out; simp [intOf]; omega
        have HLTK := hide hltk
        obtain ⟨⟨x, va⟩, hr⟩ : ∃ r, qk[k]? = some r := ⟨_, List.getElem?_eq_getElem (by omega)⟩
        have HR := hide hr
        have hxo := HCK2.out.old k _ hr (Nat.le_refl _)
        have hxm := HMEM.out.2.2 x (HCK2.out.mem hr)
        obtain ⟨Aa, ca, hva⟩ := hxo.open'
        simp only at hva
        obtain ⟨la, hla⟩ : ∃ la, x.args.length = la := ⟨_, rfl⟩
        have HLA := hide hla
        rw [hla] at hva
        subst hva
        obtain ⟨d1, e1⟩ := HCK2.out.own.at' hqkl (fun _ => rfl) hr (i := 6) (by omega)
        have d2 : wk.cell? ⟨g4, k * 7 + 6, none⟩ = some (.slice Aa la ca) := d1
        have HAC := hide (HCA.out wk (.slice Aa la ca) x.args (by omega) hxo.1 hxm)
        have hxi : IntsV wk (· < B) (.slice Aa la ca) x.args := hxo.1
        obtain ⟨-, -, -, -, -, -, hR⟩ := hxi.sl
        have HAR := hide hR
        have hk0 : (0 : Int) ≤ (k : Int) := by omega
        have hk1 : (k : Int) < (n : Int) := by omega
        clear d1 hr hxo hxm hla hqkl hxi hR
        go_wp2_with (go_at_call 29; (with_reducible refine HAC.out.mono ?_); rintro e w3 ⟨v3, rfl, ho3, hb3⟩; obtain ⟨A5, c5, hv5, -, -, -⟩ := ho3.sl; rw [HLA.out] at hv5; subst hv5; have hf3 := (hb3.cell (p := ⟨g4, k * 7 + 6, none⟩) lg4).trans d2; have hz3 := (hb3.frozen (p := ⟨g4, k * 7 + 6, none⟩) lg4).trans e1; have HST := hide (HCK2.out.step (by omega) (by omega) HQKL.out HR.out hb3 ho3 HAR.out); have HB3 := hide (HBK.out.trans (hb3.mono lwk)); have l3 := hb3.size; clear ho3 hb3)
        go_roundw
        case rel => exact ⟨k + 1, _, by have := HLTK.out; omega, by go_num, HST, Below.setCell HB3.out (by show _ ≤ g4; omega) _⟩
        case measure => have := HLTK.out; simp [intOf]; omega
end Go.Proofs.YtnoknodijombpaaDoor
