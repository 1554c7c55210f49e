/- The statement LiveOuts, walked: it answers true. Condition: the table of parts reads as listed; no slice of the program is longer than any machine's memory. -/
import Derived.Test.YtpccjlgnehghgaaDoorPaOJR
set_option linter.unusedSimpArgs false
set_option linter.unusedVariables false
namespace Go.Proofs.YtpccjlgnehghgaaDoor
open Go.RowKit

/-- What layer 11 asks of a function of a program that may be. -/
structure LOk (p : List FunV) (f : FunV) : Prop where
  flow : FlowOk f
  one : 1 ≤ f.blocks.length
  ne : ∀ c, c < f.blocks.length → codeOf f c ≠ []
  few : ∀ l ∈ f.blocks, ∀ x ∈ l, x.args.length ≤ 1099511627000
  kinds : f.kinds.length ≤ 48
  bl : f.base.length = f.kinds.length
  base : ∀ kb ∈ f.kinds.zip f.base, baseB4 f.kinds kb.1 kb.2 = true
  may : ∀ l ∈ f.blocks, ∀ x ∈ l, mayB4 p f x = true
theorem lOk_of {p : List FunV} (h : progB4 p = true) (hf : progFew p) : ∀ f ∈ p, LOk p f := fun f hm => by
  obtain ⟨-, -, -, hall⟩ := prog_parts h
  obtain ⟨⟨h1, h2, h3⟩, -, -, ⟨-, -, h4⟩, hmay⟩ := fun_parts (hall f hm)
  refine ⟨(flowOk_of h f hm).1, (flowOk_of h f hm).2, fun c hc => ?_, hf f hm, h2, h1, h3, hmay⟩
  obtain ⟨l, hl⟩ : ∃ l, f.blocks[c]? = some l := ⟨_, List.getElem?_eq_getElem hc⟩
  have := (h4 l (List.mem_of_getElem? hl)).1
  unfold codeOf
  rw [hl]
  intro e
  simp at e
  subst e
  simp at this
/-- The set of what is live at the beginning of one of l. -/
structure JnS (f : FunV) (l : List Int) (s : List Nat) : Prop where
  tidy : Tidy s
  ok : SetOk s
  has : ∀ v : Nat, hasB s (v : Int) = true ↔ ∃ n ∈ l, Lv f n.toNat v
theorem JnS.nil (f : FunV) : JnS f [] [] := ⟨tidy_nil, ⟨by simp, fun x hx => by cases hx⟩, fun v => by simp [hasB]⟩
theorem JnS.snoc {f : FunV} {l : List Int} {s t : List Nat} {n : Int} (h : JnS f l s) (ht : LvS f n.toNat t) : JnS f (l ++ [n]) (joinL [s, t]) :=
  ⟨neat_tidy _, join_ok h.ok ht.ok, fun v => by
    rw [join_has, h.has, ht.has]
    constructor
    · rintro (⟨m, hm, h1⟩ | h1)
      · exact ⟨m, List.mem_append_left _ hm, h1⟩
      · exact ⟨n, by simp, h1⟩
    · rintro ⟨m, hm, h1⟩
      rcases List.mem_append.1 hm with hm | hm
      · exact .inl ⟨m, hm, h1⟩
      · simp at hm
        subst hm
        exact .inr h1⟩
theorem JnS.one {f : FunV} {l : List Int} {s t : List Nat} (h1 : JnS f l s) (h2 : JnS f l t) : s = t := has_ext h1.tidy h2.tidy h1.ok.2 h2.ok.2 fun v => (h1.has v).trans (h2.has v).symm
theorem EndS.jn {f : FunV} (hok : FlowOk f) {b : Nat} {s : List Nat} (h : EndS f b s) : JnS f (nxt f b) s := by
  refine ⟨h.tidy, h.ok hok, fun v => ?_⟩
  obtain ⟨σ, hσ, rfl⟩ := h
  rw [hasB_join]
  constructor
  · rintro ⟨l, hl, h1⟩
    obtain ⟨n, hn, rfl⟩ := List.mem_map.1 hl
    exact ⟨n, hn, ((hσ n.toNat (by have := hok.2.2 b n hn; omega)).has v).1 h1⟩
  · rintro ⟨n, hn, h1⟩
    exact ⟨_, List.mem_map.2 ⟨n, hn, rfl⟩, ((hσ n.toNat (by have := hok.2.2 b n hn; omega)).has v).2 h1⟩
/-- What is live ahead of a block's first instruction. -/
theorem LvQ.inS {f : FunV} (hok : FlowOk f) {n : Nat} (hn : n < f.blocks.length) (hne : codeOf f n ≠ []) {s : List Nat} (h : LvQ f 0 (n : Int) 0 s) : LvS f n s := by
  obtain ⟨l, hl⟩ : ∃ l, f.blocks[n]? = some l := ⟨_, List.getElem?_eq_getElem hn⟩
  have hc : codeOf f n = l := by unfold codeOf; rw [hl]; rfl
  have hlen : 0 < l.length := by
    rw [hc] at hne
    exact List.length_pos_iff.2 hne
  unfold LvQ at h
  rw [if_pos (by unfold hereB; rw [sizeN_nat hl]; simp; omega)] at h
  obtain ⟨t, ⟨σ, hσ, rfl⟩, rfl⟩ := h
  have e := LvS.fix hσ hok hn hne
  simp only [Int.toNat_natCast]
  show LvS f n (thrS ((codeOf f n).drop 0) _)
  rw [List.drop_zero, e]
  exact hσ n hn
/-- What is live behind a block's last one. -/
theorem LvQ.outS {f : FunV} (hok : FlowOk f) {n : Nat} (hn : n < f.blocks.length) (hne : codeOf f n ≠ []) {s : List Nat} (h : LvQ f 1 (n : Int) (sizeN f (n : Int) - 1) s) : JnS f (nxt f n) s := by
  obtain ⟨l, hl⟩ : ∃ l, f.blocks[n]? = some l := ⟨_, List.getElem?_eq_getElem hn⟩
  have hc : codeOf f n = l := by unfold codeOf; rw [hl]; rfl
  have hlen : 0 < l.length := by
    rw [hc] at hne
    exact List.length_pos_iff.2 hne
  unfold LvQ at h
  rw [if_pos (by unfold hereB; rw [sizeN_nat hl]; simp; omega), sizeN_nat hl, Int.toNat_natCast, hc] at h
  obtain ⟨t, ht, rfl⟩ := h
  rw [List.drop_eq_nil_of_le (by omega)]
  exact ht.jn hok
theorem rjoin2V {w : World} {A T : Option Addr} {n c m d : Nat} {s t : List Nat} (h : SetV w (.slice A n c) s) (h' : SetV w (.slice T m d) t) (hs : SetOk s) (ht : SetOk t) :
    Calls Tryd.prog 32 #[.slice (some ⟨w.heap.size, 0, none⟩) 2 2] (w.alloc (.cells #[.slice A n c, .slice T m d] 31)) fun e w' => ∃ r, e = .returned r ∧ SetV w' r (joinL [s, t]) ∧ Below w.heap.size w w' := by
  obtain ⟨A1, c1, e1, h2, h3, h4⟩ := h
  obtain ⟨T1, d1, e2, k2, k3, k4⟩ := h'
  cases e1
  cases e2
  refine (rjoin_two A T s.length c t.length d s t w ⟨h4, hs.2, h2, h3⟩ ⟨k4, ht.2, k2, k3⟩ rfl rfl (by have := hs.1; omega) (by have := ht.1; omega)).mono fun e w' ⟨A', c', he, h5, h6, h7, h8⟩ => ⟨_, he, ⟨A', c', rfl, h5, h6, h7⟩, h8⟩
set_option maxHeartbeats 4000000 in
set_option maxRecDepth 100000 in
theorem outs_law (vp : Value) (p : List FunV) (w : World) (hT : TabP w) (hp : FunsV w (· < w.heap.size) vp p) (hsz : progSize p) :
    Calls Tryd.prog 6 #[.agg #[vp]] w fun e w' => e = .returned (.bool true) ∧ Below w.heap.size w w' := by
  have HKP := hide (fun (W : World) (hW : Below w.heap.size w W) => hp.keep (up hW (Nat.le_refl _)) (fun _ h => h))
  have HTT := hide (fun (W : World) (hW : Below w.heap.size w W) => hT.below hW hT.1)
  have HOUT := hide (fun (W : World) (hW : Below w.heap.size w W) => out11_any vp p W w.heap.size hW.size (hp.keep (up hW (Nat.le_refl _)) (fun _ h => h)) hsz)
  have HALLOK := hide (fun (h : progB4 p = true ∧ progFew p) => @lOk_of p h.1 h.2)
  obtain ⟨A, c, rfl, hpc, hpm⟩ := hp.open'
  obtain ⟨lp, hlp⟩ : ∃ lp, p.length = lp := ⟨_, rfl⟩
  have HLP := hide hlp
  rw [hlp] at HKP HOUT hpc ⊢
  clear hp hsz hlp hT
  go_enter Tryd.func6, Tryd.ntmps6
  go_upto_region 1 with (fail)
  obtain ⟨w0, hw0⟩ : ∃ w0, w0 = w.alloc (.cells #[.slice A lp c] 24) := ⟨_, rfl⟩
  have HX0 := hide (show Box w0 w.heap.size #[.slice A lp c] 24 by rw [hw0]; exact Box.new w _ _)
  have HB0 := hide (show Below w.heap.size w w0 by rw [hw0]; exact alloc1 w _)
  rw [← hw0]
  clear hw0
  go_upto_region 3 with (go_at_call 10; refine (alive11_any w0 (HTT.out w0 HB0.out)).mono ?_; rintro e w1 ⟨rfl, hb1⟩; have HX1 := hide (HX0.out.below hb1); have HC1 := hide (HB0.out.trans (hb1.mono HB0.out.size)); clear hb1)
  have x1 := (HX1.out.cell 0 (v := .slice A lp c) rfl).1
  have l1 := HX1.out.lt
  go_upto_region 5 with (go_at_call 11; refine (HOUT.out w1 HC1.out).mono ?_; rintro e w2 ⟨b1, rfl, hs2, hb2⟩; have HB2 := hide (HC1.out.trans (hb2.mono HC1.out.size)); have HX2 := hide (HX1.out.below hb2); have HS2 := hide hs2; clear x1 hb2 hs2)
  all_goals try (go_ret; exact ⟨rfl, HB2.out⟩)
  have hb1f : b1 = false := by assumption
  subst hb1f
  have HOKS := hide (HALLOK.out (HS2.out.out rfl))
  clear HOUT HALLOK HS2 HC1 HX1 l1
  go_wp2
  go_loopw [3] (fun i wr => ∃ k : Nat, k ≤ lp ∧ i = .int .i64 k ∧ Below w2.heap.size w2 wr) (fun i _ => lp - (intOf i).toNat)
  case atStart => exact ⟨0, Nat.zero_le _, rfl, Below.refl _ _⟩
  case round =>
    obtain ⟨k, hk, rfl, hb'⟩ := hrel
    obtain ⟨wo, rfl⟩ : ∃ wo, wo = wr := ⟨_, rfl⟩
    have hszo := hb'.size
    have HBEL := hide (HB2.out.trans (hb'.mono HB2.out.size))
    have HXO := hide (HX2.out.below hb')
    have HBW := hide hb'
    have xp := (HXO.out.cell 0 (v := .slice A lp c) rfl).1
    have lxp := HXO.out.lt
    clear hb'
    by_cases hlt : k < lp
    case neg =>
      go_wp2
      go_ret
      exact ⟨rfl, HBEL.out⟩
    have HKLT := hide hlt
    obtain ⟨f, hf⟩ : ∃ f, p[k]? = some f := ⟨_, List.getElem?_eq_getElem (by have := HLP.out; omega)⟩
    obtain ⟨b, o, Ak, ck, Ab, cb, As, cs, hA, hbb, ⟨e0, e1, e2, e3, e4⟩, hi⟩ := (HKP.out wo HBEL.out).get hf
    subst hA
    have hbs : b < wo.heap.size := by have := HBEL.out.size; omega
    have HLF := hide (HOKS.out f (List.mem_of_getElem? hf))
    have kI := fun (W : World) (hW : Below wo.heap.size wo W) => hi.keep (w := wo) (S := (· < w.heap.size)) (up hW HBEL.out.size) (fun _ h => h)
    have hsW : ∀ W : World, Below wo.heap.size wo W → w.heap.size ≤ W.heap.size := fun W hW => by have := hW.size; have := HBEL.out.size; omega
    have HTO := hide (fun (W : World) (hW : Below wo.heap.size wo W) => HTT.out W (HBEL.out.trans (hW.mono HBEL.out.size)))
    have hls40 := HLF.out.flow.1
    have hls1 := HLF.out.one
    have HIN := hide (fun (W : World) (hW : Below wo.heap.size wo W) (n : Int) => in_any _ _ _ f n W w.heap.size (hsW W hW) (kI W hW) (HTO.out W hW) HLF.out.flow HLF.out.ne HLF.out.few)
    have HOU := hide (fun (W : World) (hW : Below wo.heap.size wo W) (n : Int) => out_anyL _ _ _ f n W w.heap.size (hsW W hW) (kI W hW) (HTO.out W hW) HLF.out.flow HLF.out.ne HLF.out.few)
    have HNX := hide (fun (W : World) (hW : Below wo.heap.size wo W) (n : Int) => rnextN_any _ _ _ f n W w.heap.size (hsW W hW) (kI W hW) HLF.out.flow)
    have HINS := hide (fun (n : Nat) (hn : n < f.blocks.length) (s : List Nat) (h : LvQ f 0 (n : Int) 0 s) => h.inS HLF.out.flow hn (HLF.out.ne n hn))
    have HOUS := hide (fun (n : Nat) (hn : n < f.blocks.length) (s : List Nat) (h : LvQ f 1 (n : Int) (sizeN f (n : Int) - 1) s) => h.outS HLF.out.flow hn (HLF.out.ne n hn))
    have HNR := hide (fun (n : Nat) (z : Int) (h : z ∈ nxt f n) => HLF.out.flow.2.2 n z h)
    have HNE := hide (fun (n : Nat) (hn : n < f.blocks.length) => (show nxtI f (n : Int) = nxt f n by unfold nxtI; rw [if_pos (by unfold inB; simp; omega)]; rfl))
    have HNL := hide (fun (n : Nat) => nxt_len f n)
    obtain ⟨ls, hls2⟩ : ∃ ls, f.blocks.length = ls := ⟨_, rfl⟩
    have HLS := hide hls2
    rw [hls2] at HIN HOU HNX HINS HOUS HNR HNE e4 hls40 hls1
    clear hi hf kI hsW hls2
    generalize f.kinds.length = lk, f.base.length = lb, f.params = fp, f.result = fr at *
    have hki : (0 : Int) ≤ (k : Int) := by omega
    have hkl : (k : Int) < (lp : Int) := by omega
    go_upto_region 9 with (fail)
    obtain ⟨w5, hw5⟩ : ∃ w5, w5 = wo.alloc (.cells #[.slice Ak lk ck, .slice Ab lb cb, .int .i64 fp, .int .i64 fr, .slice As ls cs] 30) := ⟨_, rfl⟩
    obtain ⟨h5, hh5⟩ : ∃ h5, wo.heap.size = h5 := ⟨_, rfl⟩
    have HX5 := hide (show Box w5 h5 #[.slice Ak lk ck, .slice Ab lb cb, .int .i64 fp, .int .i64 fr, .slice As ls cs] 30 by rw [hw5, ← hh5]; exact Box.new wo _ _)
    have HB5 := hide (show Below wo.heap.size wo w5 by rw [hw5]; exact alloc1 wo _)
    rw [← hw5, hh5]
    clear hw5 hh5 e0 e1 e2 e3 e4 hbs xp lxp
    have l5 := HX5.out.lt
    have hz5 := HB5.out.size
    have HK5 := hide (fun (W : World) (hW : Below w5.heap.size w5 W) => And.intro ((HX5.out.below hW).cell 0 (v := .slice Ak lk ck) rfl).1 (And.intro ((HX5.out.below hW).cell 1 (v := .slice Ab lb cb) rfl).1 (And.intro ((HX5.out.below hW).cell 2 (v := .int .i64 fp) rfl).1 (And.intro ((HX5.out.below hW).cell 3 (v := .int .i64 fr) rfl).1 ((HX5.out.below hW).cell 4 (v := .slice As ls cs) rfl).1))))
    have HUP := hide (fun (W : World) (hW : Below w5.heap.size w5 W) => HB5.out.trans (hW.mono HB5.out.size))
    go_wp2
    go_loopw [5] (fun i wr => ∃ b : Nat, b ≤ ls ∧ i = .int .i64 b ∧ Below w5.heap.size w5 wr) (fun i _ => ls - (intOf i).toNat)
    case atStart => exact ⟨0, Nat.zero_le _, rfl, Below.refl _ _⟩
    case round =>
      obtain ⟨b, hb, rfl, hbw⟩ := hrel
      obtain ⟨wb, rfl⟩ : ∃ wb, wb = wr := ⟨_, rfl⟩
      have HCB := hide hbw
      have hzb := hbw.size
      clear hbw
      obtain ⟨c0, c1, c2, c3, c4⟩ := HK5.out wb HCB.out
      by_cases hltb : b < ls
      case neg =>
        go_wp2
        go_roundw
        case rel => exact ⟨k + 1, by have := HKLT.out; omega, by go_num, HBW.out.trans ((HUP.out wb HCB.out).mono hszo)⟩
        case measure => have := HKLT.out; simp [intOf]; omega
      have HBLT := hide hltb
      obtain ⟨nx, hnx⟩ : ∃ nx, nxt f b = nx := ⟨_, rfl⟩
      have HNXB := hide (HNX.out wb (HUP.out wb HCB.out) (b : Int))
      have HNRB := hide (fun (z : Int) (h : z ∈ nx) => HNR.out b z (by rw [hnx]; exact h))
      rw [HNE.out b hltb, hnx] at HNXB
      obtain ⟨nn, hnn⟩ : ∃ nn, nx.length = nn := ⟨_, rfl⟩
      have hnn2 : nn ≤ 2 := by rw [← hnn, ← hnx]; exact HNL.out b
      have HOB := hide (HOUS.out b hltb)
      rw [hnx] at HOB
      rw [hnn] at HNXB
      have HNN := hide hnn
      clear hnx hnn
      go_upto_region 14 with (go_at_call 23; (with_reducible refine HNXB.out.mono ?_); rintro e w6 ⟨An, cn, rfl, hs6, hn6, -, -, hb6⟩; have HS6 := hide hs6; have HC6 := hide (HCB.out.trans (hb6.mono hzb)); have l6 := hb6.size; clear hs6 hb6)
      go_wp2
      go_loopw [6, 8] (fun v i wr => ∃ (j : Nat) (s : List Nat), j ≤ nn ∧ i = .int .i64 j ∧ Hid (SetV wr v s) ∧ Hid (JnS f (nx.take j) s) ∧ Below w6.heap.size w6 wr) (fun _ i _ => nn - (intOf i).toNat)
      case atStart => exact ⟨0, [], Nat.zero_le _, rfl, hide (SetV.nil0 _), hide (JnS.nil f), Below.refl _ _⟩
      case round =>
        obtain ⟨j, s, hj, rfl, HSV, HJN, hbw⟩ := hrel
        obtain ⟨wj, rfl⟩ : ∃ wj, wj = wr := ⟨_, rfl⟩
        have HCJ := hide (HC6.out.trans (hbw.mono HC6.out.size))
        have HBJ := hide hbw
        have lj := hbw.size
        clear hbw c0 c1 c2 c3 c4
        obtain ⟨c0, c1, c2, c3, c4⟩ := HK5.out wj HCJ.out
        obtain ⟨Av, cv, hvv, -⟩ := HSV.out
        obtain ⟨ns, hns⟩ : ∃ ns, s.length = ns := ⟨_, rfl⟩
        rw [hns] at hvv
        subst hvv
        have hns64 : ns ≤ 64 := by rw [← hns]; exact HJN.out.ok.1
        by_cases hltj : j < nn
        case neg =>
          obtain rfl : nn = j := by omega
          have hnl : ¬ ((nn : Int) < (nn : Int)) := by omega
          have HJ2 := hide (show JnS f nx s by have := HJN.out; rw [List.take_of_length_le (by have := HNN.out; omega)] at this; exact this)
          have HOUB := hide (HOU.out wj (HUP.out wj HCJ.out) (b : Int))
          have HNS := hide hns
          clear hns
          go_wp2_with (first
            | (go_at_call 13; refine HWD.out.mono ?_; rintro e w9 ⟨rfl, rfl⟩)
            | (go_at_call 19; (with_reducible refine HOUB.out.mono ?_); rintro e w8 ⟨r8, s8, rfl, hq8, hv8, hb8⟩; have he8 : s8 = s := (HOB.out s8 hq8).one HJ2.out; rw [he8] at hv8; have HWD := hide (rwordsV hv8 (HSV.out.below hb8) (by have := HNS.out; omega)); have HC8 := hide (HCJ.out.trans (hb8.mono HCJ.out.size)); clear hq8 hv8 hb8 he8))
          go_roundw
          case rel => exact ⟨b + 1, by have := HBLT.out; omega, by go_num, by first | exact HC8.out | trace_state⟩
          case measure => have := HBLT.out; simp [intOf]; omega
        have HJLT := hide hltj
        obtain ⟨z, hz⟩ : ∃ z, nx[j]? = some z := ⟨_, List.getElem?_eq_getElem (by have := HNN.out; omega)⟩
        obtain ⟨n, rfl⟩ : ∃ n : Nat, z = (n : Int) := ⟨z.toNat, by have := HNRB.out z (List.mem_of_getElem? hz); omega⟩
        have hn1 : n < ls := by have := HNRB.out _ (List.mem_of_getElem? hz); omega
        have HTS := hide (show nx.take (j + 1) = nx.take j ++ [(n : Int)] from take_snoc hz)
        obtain ⟨g7, o7, e7, hg7, hc7⟩ := HS6.out (by have := HNN.out; omega)
        subst e7
        have q7 : wj.cell? ⟨g7, o7 + j, none⟩ = some (.int .i64 (n : Int)) := (World.cell?_of_block (a := ⟨g7, o7 + j, none⟩) (HBJ.out.block g7 hg7)).trans ((hc7 j (by have := HNN.out; omega)).trans (by rw [show nx.getD j 0 = (n : Int) by simp [List.getD, hz]]))
        have HQ7 := hide (fun (W : World) (hW : Below wj.heap.size wj W) => (World.cell?_of_block (a := ⟨g7, o7 + j, none⟩) (hW.block g7 (by omega))).trans q7)
        have HINB := hide (fun (W : World) (hW : Below wj.heap.size wj W) => HIN.out W (HUP.out W (HCJ.out.trans (hW.mono HCJ.out.size))) (n : Int))
        have HIS := hide (HINS.out n hn1)
        have HNS := hide hns
        have hj0 : (0 : Int) ≤ (j : Int) := by omega
        have hj1 : (j : Int) < (nn : Int) := by omega
        clear hc7 hz hns
        go_upto_region 17 with (fail)
        go_region_held3 (fun w' => (w'.cell? ⟨h5, 0, none⟩ = some (.slice Ak lk ck) ∧ w'.cell? ⟨h5, 1, none⟩ = some (.slice Ab lb cb) ∧ w'.cell? ⟨h5, 2, none⟩ = some (.int .i64 fp) ∧ w'.cell? ⟨h5, 3, none⟩ = some (.int .i64 fr) ∧ w'.cell? ⟨h5, 4, none⟩ = some (.slice As ls cs)) ∧ w'.cell? ⟨g7, o7 + j, none⟩ = some (.int .i64 (n : Int))) (first | go_keep | (exact q8))
          (first
            | (go_at_call 32; refine (rjoin2V (HSV.out.below HW7.out) HV7.out HJN.out.ok HK7.out).mono ?_; rintro e w8 ⟨r8, rfl, hv8, hb8⟩; have hc8 := HW7.out.trans (hb8.mono HW7.out.size); have q8 := And.intro (HK5.out w8 (HCJ.out.trans (hc8.mono HCJ.out.size))) (HQ7.out w8 hc8); have HV8 := hide hv8; have HW8 := hide hc8; clear hv8 hb8 hc8)
            | (go_at_call 17; refine (HINB.out (wj.drewN 1) (below_drewN (Below.refl _ _) 1)).mono ?_; rintro e w7 ⟨r7, s7, rfl, hq7, hv7, hb7⟩; have hi7 := HIS.out s7 hq7; have hw7 : Below wj.heap.size wj w7 := ⟨hb7.os, hb7.tape, hb7.output, hb7.size, hb7.block⟩; obtain ⟨A7, c7, hr7, -⟩ := id hv7; obtain ⟨n7, hn7⟩ : ∃ n7, s7.length = n7 := ⟨_, rfl⟩; rw [hn7] at hr7; subst hr7; have q8 := And.intro (HK5.out w7 (HCJ.out.trans (hw7.mono HCJ.out.size))) (HQ7.out w7 hw7); have HV7 := hide hv7; have HW7 := hide hw7; have HI7 := hide hi7; have HK7 := hide hi7.ok; clear hq7 hv7 hb7 hi7 hw7 hn7))
        go_wp2
        go_roundw
        case rel => exact ⟨j + 1, joinL [s, s7], by have := HJLT.out; omega, by go_num, HV8, by rw [HTS.out]; exact hide (HJN.out.snoc HI7.out), HBJ.out.trans (HW8.out.mono HBJ.out.size)⟩
        case measure => have := HJLT.out; simp [intOf]; omega
end Go.Proofs.YtpccjlgnehghgaaDoor
