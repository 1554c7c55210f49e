/- Layer 11, the document's answer: does an instruction ask for a variable; the walk from a place on. Condition: the function is one of a program that may be. -/
import Derived.Test.YtbofnlaacjgclaaDoorPbJW
import Derived.Test.YtbofnlaacjgclaaDoorPbZN
set_option linter.unusedSimpArgs false
set_option linter.unusedVariables false
namespace Go.Proofs.YtbofnlaacjgclaaDoor
open Go.RowKit

set_option maxHeartbeats 1000000 in
set_option maxRecDepth 100000 in
theorem rasks_any (x : InsV) (va : Value) (v : Int) (w : World) (B : Nat) (hB : B ≤ w.heap.size) (hx : InsI w (· < B) va x) (hlen : x.args.length ≤ 17592186044000) :
    Calls Tryd.prog 93 #[.agg #[.int .i64 x.op, .int .i64 x.d, .int .i64 x.a, .int .i64 x.b, .int .i64 x.n, .int .i64 x.m, va], .int .i64 v] w fun e w' => e = .returned (.bool (decide (v ∈ usesL x))) ∧ Below w.heap.size w w' := by
  have HU := hide (fun (W : World) (hW : Below w.heap.size w W) => uses4_any x va W B (by have := hW.size; omega) (hx.keep (up hW hB) (fun _ h => h)) hlen)
  obtain ⟨A, c, rfl⟩ := hx.open'
  obtain ⟨la, hla⟩ : ∃ la, x.args.length = la := ⟨_, rfl⟩
  rw [hla] at HU ⊢
  have hul := usesL_len x
  obtain ⟨ul, hule⟩ : ∃ ul, usesL x = ul := ⟨_, rfl⟩
  rw [hule] at HU hul ⊢
  obtain ⟨n, hn⟩ : ∃ n, ul.length = n := ⟨_, rfl⟩
  have HN := hide hn
  rw [hn] at hul
  generalize x.op = xop, x.d = xd, x.a = xa, x.b = xb, x.n = xn, x.m = xm at *
  clear hx hla hule hn
  go_enter Tryd.func93, Tryd.ntmps93
  go_upto_region 1 with (fail)
  obtain ⟨w1, hw1⟩ : ∃ w1, w1 = w.alloc (.cells #[.int .i64 xop, .int .i64 xd, .int .i64 xa, .int .i64 xb, .int .i64 xn, .int .i64 xm, .slice A la c] 45) := ⟨_, rfl⟩
  have HBX := hide (show Box w1 w.heap.size #[.int .i64 xop, .int .i64 xd, .int .i64 xa, .int .i64 xb, .int .i64 xn, .int .i64 xm, .slice A la c] 45 by rw [hw1]; exact Box.new w _ _)
  have HB1 := hide (show Below w.heap.size w w1 by rw [hw1]; exact alloc1 w _)
  have hl1 := HBX.out.lt
  have x0 := (HBX.out.cell 0 (v := .int .i64 xop) rfl).1
  have x1 := (HBX.out.cell 1 (v := .int .i64 xd) rfl).1
  have x2 := (HBX.out.cell 2 (v := .int .i64 xa) rfl).1
  have x3 := (HBX.out.cell 3 (v := .int .i64 xb) rfl).1
  have x4 := (HBX.out.cell 4 (v := .int .i64 xn) rfl).1
  have x5 := (HBX.out.cell 5 (v := .int .i64 xm) rfl).1
  have x6 := (HBX.out.cell 6 (v := .slice A la c) rfl).1
  rw [← hw1]
  clear hw1
  go_wp2_with (go_at_call 91; refine (HU.out w1 HB1.out).mono ?_; rintro e w2 ⟨v2, rfl, ho2, hb2⟩; have HO2 := hide ho2; have HB2 := hide (HB1.out.trans (hb2.mono HB1.out.size)); clear ho2 hb2 x0 x1 x2 x3 x4 x5 x6)
  obtain ⟨A2, c2, hv2, -, -, hs2⟩ := HO2.out.sl
  rw [HN.out] at hv2
  subst hv2
  have HS2 := hide hs2
  clear hs2
  go_loopw [6] (fun i wr => ∃ k : Nat, k ≤ n ∧ i = .int .i64 k ∧ Below w2.heap.size w2 wr ∧ Hid (¬ v ∈ ul.take k)) (fun i _ => n - (intOf i).toNat)
  case atStart => exact ⟨0, Nat.zero_le _, rfl, Below.refl _ _, hide (by simp)⟩
  case round =>
    obtain ⟨k, hk, rfl, hb, HNO⟩ := hrel
    obtain ⟨wo, rfl⟩ : ∃ wo, wo = wr := ⟨_, rfl⟩
    have HC := hide hb
    have lwo := hb.size
    clear hb
    by_cases hlt : k < n
    case neg =>
      obtain rfl : n = k := by omega
      have hnl : ¬ ((n : Int) < (n : Int)) := by omega
      have HR := hide (show decide (v ∈ ul) = false from decide_eq_false (by have h := HNO.out; rw [List.take_of_length_le (by have := HN.out; omega)] at h; exact h))
      go_wp2
      go_ret
      exact ⟨ret_bool HR.out.symm, HB2.out.trans (HC.out.mono HB2.out.size)⟩
    have HLT := hide hlt
    obtain ⟨y, hy⟩ : ∃ y, ul[k]? = some y := ⟨_, List.getElem?_eq_getElem (by have := HN.out; omega)⟩
    obtain ⟨be, oe, rfl, hbe, hce⟩ := HS2.out (by have := HN.out; omega)
    have d1 := (HC.out.cell (p := ⟨be, oe + k, none⟩) hbe).trans (hce k (by have := HN.out; omega))
    rw [show ul.getD k 0 = y by simp [List.getD, hy]] at d1
    have hbs : be < wo.heap.size := by omega
    have hk0 : (0 : Int) ≤ (k : Int) := by omega
    have hk1 : (k : Int) < (n : Int) := by omega
    have HY := hide hy
    clear hce hbe hy
    by_cases hyv : y = v
    · have HR := hide (show decide (v ∈ ul) = true from decide_eq_true (by rw [← hyv]; exact List.mem_of_getElem? HY.out))
      have q : (y == v) = true := by simpa using hyv
      clear hyv
      go_wp2
      go_ret
      exact ⟨ret_bool HR.out.symm, HB2.out.trans (HC.out.mono HB2.out.size)⟩
    · have q : (y == v) = false := by simpa using hyv
      have HN2 := hide (show ¬ v ∈ ul.take (k + 1) by
        rw [List.take_add_one, HY.out]
        intro hm
        rcases List.mem_append.1 hm with h | h
        · exact HNO.out h
        · simp at h; exact hyv h.symm)
      clear hyv
      go_wp2
      go_roundw
      case rel => exact ⟨k + 1, by have := HLT.out; omega, by go_num, HC.out, HN2⟩
      case measure => have := HLT.out; simp [intOf]; omega
theorem scanV_yes {v : Int} {l : List InsV} {k : Nat} {x : InsV} (hx : l[k]? = some x) (h : v ∈ usesL x) : scanV v (l.drop k) = some true := by rw [scanV_drop hx, if_pos h]
theorem scanV_set {v : Int} {l : List InsV} {k : Nat} {x : InsV} (hx : l[k]? = some x) (h : ¬ v ∈ usesL x) (hd : hasB4 x.op 68 = true) (he : x.d = v) : scanV v (l.drop k) = some false := by rw [scanV_drop hx, if_neg h, if_pos ⟨hd, he⟩]
theorem scanV_on {v : Int} {l : List InsV} {k : Nat} {x : InsV} (hx : l[k]? = some x) (h : ¬ v ∈ usesL x) (hd : ¬ (hasB4 x.op 68 = true ∧ x.d = v)) : scanV v (l.drop k) = scanV v (l.drop (k + 1)) := by rw [scanV_drop hx, if_neg h, if_neg hd]
theorem But.ofB {w w' : World} {g : Nat} (h : Below w.heap.size w w') : But g w w' := ⟨h.os, h.tape, h.output, h.size, fun k hk _ => h.block k hk⟩
theorem But.tr {w w1 w2 : World} {g : Nat} (h : But g w w1) (h2 : But g w1 w2) : But g w w2 :=
  ⟨h2.os.trans h.os, h2.tape.trans h.tape, h2.output.trans h.output, Nat.le_trans h.size h2.size, fun k hk hg => (h2.block k (Nat.lt_of_lt_of_le hk h.size) hg).trans (h.block k hk hg)⟩
theorem But.drw {g : Nat} {w w' : World} (h : But g w w') (n : Nat) : But g w (w'.drewN n) := ⟨h.os, h.tape, h.output, h.size, h.block⟩
def FromL (f : FunV) (v bm : Nat) (m : List Bool) (nx : List Int) (w3 : World) (k : Nat) (wr : World) : Prop := ∃ mk, MB wr bm mk ∧ WF f v m nx k mk ∧ But bm w3 wr
/-- What the walk answers and leaves. -/
def FromA (f : FunV) (v b : Nat) (l : List InsV) (m : List Bool) (bm : Nat) (w : World) (e : Ending) (w' : World) : Prop := ∃ r m', e = .returned (.bool r) ∧ MB w' bm m' ∧ FromP f v b l m r m' ∧ But bm w w'
set_option maxHeartbeats 4000000 in
set_option maxRecDepth 100000 in
theorem rfrom_any (vk vb vs : Value) (f : FunV) (v : Nat) (hv : v < 4096) (hok : FlowOk f) (hfew : ∀ l ∈ f.blocks, ∀ x ∈ l, x.args.length ≤ 1099511627000) (bm B : Nat) (hBb : B ≤ bm) : ∀ (u : Nat) (b i : Nat) (m : List Bool) (l : List InsV) (w : World),
    m.count false = u → m.length = f.blocks.length → f.blocks[b]? = some l → i ≤ l.length → B ≤ w.heap.size → FunI w (· < B) vk vb vs f → MB w bm m →
    Calls Tryd.prog 64 #[.agg #[vk, vb, .int .i64 f.params, .int .i64 f.result, vs], .int .i64 (b : Int), .int .i64 (i : Int), .int .i64 (v : Int), .slice (some ⟨bm, 0, none⟩) f.blocks.length f.blocks.length] w (FromA f v b (l.drop i) m bm w) := by
  intro u
  induction u using Nat.strongRecOn with
  | ind u ih =>
  intro b i m l w hmu hml hl hil hBw hi hMB
  have HIH := hide ih
  have HFI := hide hi
  have HMU := hide hmu
  have HML := hide hml
  have hls40 := hok.1
  have hbl := (List.getElem?_eq_some_iff.1 hl).1
  have hl40 := hok.2.1 l (List.mem_of_getElem? hl)
  have HV := hide hv
  have HOKF := hide hok
  have HNR := hide (fun v hv => hok.2.2 b v hv)
  have HFEW := hide (fun (x : InsV) (hx : x ∈ l) => (show x.args.length ≤ 17592186044000 from by have := hfew l (List.mem_of_getElem? hl) x hx; omega))
  have HNX := hide (fun (W : World) (hW : FunI W (· < B) vk vb vs f) (hBW : B ≤ W.heap.size) => (show Calls Tryd.prog 94 #[.agg #[vk, vb, .int .i64 f.params, .int .i64 f.result, vs], .int .i64 (b : Int)] W fun e w' => ∃ A c, e = .returned (.slice A (nxt f b).length c) ∧ Sl w' w'.heap.size .i64 A (nxt f b) ∧ (nxt f b).length ≤ c ∧ c ≤ 2 ∧ (∀ b o, A = some ⟨b, o, none⟩ → W.heap.size ≤ b) ∧ Below W.heap.size W w' by
    have h := rnextN_any _ _ _ f (b : Int) W B hBW hW hok
    rw [nxtI_nat hbl] at h
    exact h))
  have HKB := hide (fun (W : World) (hF : But bm w W) => (show FunI W (· < B) vk vb vs f from HFI.out.keep (w' := W) (S' := (· < B)) (fun k o hk => World.cell?_of_block (a := ⟨k, o, none⟩) (hF.block k (by have : k < B := hk; omega) (by have : k < B := hk; omega))) (fun _ h => h)))
  obtain ⟨Ak, ck, rfl, hck, hmk⟩ := hi.1.open'
  obtain ⟨Ab, cb, rfl, hcb, hmb⟩ := hi.2.1.open'
  obtain ⟨As, cs, rfl, hcs, hms⟩ := hi.2.2.1.open'
  obtain ⟨bB, oB, AB, cB, hAs, hbB, g0, hx1⟩ := hi.2.2.1.get hl
  subst hAs
  have hsame : ∀ W, But bm w W → Same' (· < B) w W := fun W hF k o hk => World.cell?_of_block (a := ⟨k, o, none⟩) (hF.block k (by have : k < B := hk; omega) (by have : k < B := hk; omega))
  have HG0 := hide (fun (W : World) (hF : But bm w W) => (hsame W hF bB (oB + b) hbB).trans g0)
  have HXI := hide (fun (W : World) (hF : But bm w W) => hx1.keep (hsame W hF) (fun _ h => h))
  have HAS := hide (fun (x : InsV) (hx : x ∈ l) (va : Value) (W : World) (hB : B ≤ W.heap.size) (hi : InsI W (· < B) va x) => rasks_any x va (v : Int) W B hB hi (HFEW.out x hx))
  obtain ⟨n, hn⟩ : ∃ n, l.length = n := ⟨_, rfl⟩
  have HN := hide hn
  have HL := hide hl
  rw [hn] at hil hl40 HXI HG0
  have HBW := hide hBw
  have hbm := Box.lt hMB
  have HMB := hide hMB
  obtain ⟨ls, hls⟩ : ∃ ls, f.blocks.length = ls := ⟨_, rfl⟩
  have HLS := hide hls
  rw [hls] at hbl hls40 hcs HNX HIH HML HKB ⊢
  have hbl2 : (b : Int) < (ls : Int) := by omega
  have hb0 : (0 : Int) ≤ (b : Int) := by omega
  have hbB2 : bB < w.heap.size := by omega
  generalize f.kinds.length = lk, f.base.length = lb, f.params = fp, f.result = fr at *
  clear hi hok hfew hMB ih hmu hml hl hn hls hx1 g0 hsame hBw
  go_enter Tryd.func64, Tryd.ntmps64
  go_upto_region 1 with (fail)
  obtain ⟨w1, hw1⟩ : ∃ w1, w1 = w.alloc (.cells #[.slice Ak lk ck, .slice Ab lb cb, .int .i64 fp, .int .i64 fr, .slice (some ⟨bB, oB, none⟩) ls cs] 30) := ⟨_, rfl⟩
  obtain ⟨h5, hh5⟩ : ∃ h5, w.heap.size = h5 := ⟨_, rfl⟩
  have HX1 := hide (show Box w1 h5 #[.slice Ak lk ck, .slice Ab lb cb, .int .i64 fp, .int .i64 fr, .slice (some ⟨bB, oB, none⟩) ls cs] 30 by rw [hw1, ← hh5]; exact Box.new w _ _)
  have HB1 := hide (show Below w.heap.size w w1 by rw [hw1]; exact alloc1 w _)
  have w1s := HB1.out.size
  have HH5 := hide hh5
  have hbm5 : bm < h5 := by omega
  have HK1 := hide (fun (W : World) (hW : But bm w1 W) => (show W.cell? ⟨h5, 0, none⟩ = some (.slice Ak lk ck) ∧ W.cell? ⟨h5, 1, none⟩ = some (.slice Ab lb cb) ∧ W.cell? ⟨h5, 2, none⟩ = some (.int .i64 fp) ∧ W.cell? ⟨h5, 3, none⟩ = some (.int .i64 fr) ∧ W.cell? ⟨h5, 4, none⟩ = some (.slice (some ⟨bB, oB, none⟩) ls cs) from by
    have hb := hW.box HX1.out (by omega)
    exact ⟨(hb.cell 0 (v := .slice Ak lk ck) rfl).1, (hb.cell 1 (v := .slice Ab lb cb) rfl).1, (hb.cell 2 (v := .int .i64 fp) rfl).1, (hb.cell 3 (v := .int .i64 fr) rfl).1, (hb.cell 4 (v := .slice (some ⟨bB, oB, none⟩) ls cs) rfl).1⟩))
  have HUP := hide (fun (W : World) (hW : But bm w1 W) => (But.ofB (g := bm) HB1.out).tr hW)
  have lX1 := HX1.out.lt
  rw [← hw1, hh5]
  clear hw1 hh5
  have c4 := (HX1.out.cell 4 (v := .slice (some ⟨bB, oB, none⟩) ls cs) rfl).1
  have g1 := HG0.out w1 (But.ofB HB1.out)
  have hbB3 : bB < w1.heap.size := by omega
  go_upto_region 2 with (fail)
  clear c4 g1
  go_wp2
  go_loopw [12] (fun j wr => ∃ k : Nat, i ≤ k ∧ k ≤ n ∧ j = .int .i64 (k : Int) ∧ Below w1.heap.size w1 wr ∧ Hid (scanV (v : Int) (l.drop i) = scanV (v : Int) (l.drop k))) (fun j _ => n - (intOf j).toNat)
  case atStart => exact ⟨i, Nat.le_refl _, hil, rfl, Below.refl _ _, hide rfl⟩
  case round =>
    obtain ⟨k, hik, hk, rfl, hb, HSC⟩ := hrel
    obtain ⟨wo, rfl⟩ : ∃ wo, wo = wr := ⟨_, rfl⟩
    have HC := hide hb
    have lwo := hb.size
    clear hb
    have HW := hide (show But bm w wo from HUP.out wo (But.ofB HC.out))
    by_cases hlt : k < n
    case neg =>
      obtain rfl : n = k := by omega
      have hnl : ¬ ((n : Int) < (n : Int)) := by omega
      have HS0 := hide (show scanV (v : Int) (l.drop i) = none by rw [HSC.out, List.drop_eq_nil_of_le (by have := HN.out; omega)]; rfl)
      obtain ⟨c0, c1, c2, c3, c4⟩ := HK1.out wo (But.ofB HC.out)
      have HNC := hide (HNX.out wo (HKB.out wo HW.out) (by have := HBW.out; omega))
      obtain ⟨nx, hnx⟩ : ∃ nx, nxt f b = nx := ⟨_, rfl⟩
      have HNXE := hide hnx
      rw [hnx] at HNC HNR
      obtain ⟨n3, hn3⟩ : ∃ n, nx.length = n := ⟨_, rfl⟩
      have HN3 := hide hn3
      rw [hn3] at HNC
      have hn32 : n3 ≤ 2 := by rw [← hn3, ← hnx]; exact nxt_len f b
      clear hnx hn3
      go_wp2_with (go_at_call 94; (with_reducible refine (HNC.out).mono ?_); rintro e w3 ⟨A3, k3, rfl, hs3, hl3, hm3, ha3, hb3⟩; have HS3 := hide hs3; have HB3 := hide hb3; have HA3 := hide ha3; have hz3 := hb3.size; clear hs3 hb3 ha3 c0 c1 c2 c3 c4)
      have HC3 := hide (HC.out.trans (HB3.out.mono lwo))
      have HW3 := hide (show But bm w w3 from HUP.out w3 (But.ofB HC3.out))
      have HM3 := hide (show MB w3 bm m from Box.below HMB.out ((HB1.out.trans (HC3.out.mono w1s))))
      go_loopw [16] (fun j wr => ∃ k : Nat, k ≤ n3 ∧ j = .int .i64 (k : Int) ∧ Hid (FromL f v bm m nx w3 k wr)) (fun j _ => n3 - (intOf j).toNat)
      case atStart => exact ⟨0, Nat.zero_le _, rfl, hide ⟨m, HM3.out, WF.start f v m nx, But.refl _ _⟩⟩
      case round =>
        obtain ⟨k, hk, rfl, hin⟩ := hrel
        obtain ⟨wq, rfl⟩ : ∃ wq, wq = wr := ⟨_, rfl⟩
        obtain ⟨mk, hMk, hWF, hFk⟩ := hin.out
        have hzq := hFk.size
        have HMK := hide hMk
        have HWF := hide hWF
        have HFK := hide hFk
        have HFW := hide (show But bm w wq from HW3.out.tr hFk)
        have HF1 := hide (show But bm w1 wq from (But.ofB (g := bm) HC3.out).tr hFk)
        clear hin hMk hWF hFk
        by_cases hlt : k < n3
        case neg =>
          have hnl : ¬ ((k : Int) < (n3 : Int)) := by omega
          have HE := hide (show FromP f v b (l.drop i) m false mk from WF.end (by rw [HNXE.out]; exact HWF.out) (by rw [HNXE.out]; have := HN3.out; omega) HS0.out)
          go_wp2
          go_ret
          exact ⟨false, mk, rfl, HMK.out, HE.out, HFW.out⟩
        have HKLT := hide hlt
        obtain ⟨y, hy⟩ : ∃ y, nx[k]? = some y := ⟨_, List.getElem?_eq_getElem (by have := HN3.out; omega)⟩
        obtain ⟨hy0, hyl⟩ := HNR.out y (List.mem_of_getElem? hy)
        obtain ⟨yn, rfl⟩ : ∃ n : Nat, y = n := ⟨y.toNat, by omega⟩
        have hyn : yn < ls := by have := HLS.out; omega
        have HY := hide hy
        obtain ⟨b3, o3, rfl, hb3, hc3⟩ := HS3.out (by have := HN3.out; omega)
        have hb3f := HA3.out b3 o3 rfl
        have cy0 := hc3 k (by have := HN3.out; omega)
        rw [show nx.getD k 0 = (yn : Int) by simp [List.getD, hy]] at cy0
        have hb3m : b3 ≠ bm := by omega
        have HCY := hide (fun (W : World) (hW : But bm w3 W) => (World.cell?_of_block (a := ⟨b3, o3 + k, none⟩) (hW.block b3 hb3 hb3m)).trans cy0)
        have cy := HCY.out wq HFK.out
        have hb3q : b3 < wq.heap.size := by omega
        have hmkl : mk.length = ls := by rw [HWF.out.len]; exact HML.out
        obtain ⟨mc, mf⟩ := HMK.out.cell (b := yn) (by omega)
        have hbmq : bm < wq.heap.size := Box.lt HMK.out
        have hk0 : (0 : Int) ≤ (k : Int) := by omega
        have hk1 : (k : Int) < (n3 : Int) := by omega
        have hy1 : ¬ (yn : Int) < 0 := by omega
        have hy2 : ¬ (yn : Int) ≥ (ls : Int) := by omega
        have hy3 : (0 : Int) ≤ (yn : Int) := by omega
        have hy4 : (yn : Int) < (ls : Int) := by omega
        have HML2 := hide hmkl
        clear hc3 cy0 hy hyl hy0 hmkl
        cases hq : metB mk (yn : Int) with
        | true =>
          rw [hq] at mc
          have HSK := hide (HWF.out.skip HY.out hq)
          clear hq
          go_wp2
          go_roundw
          case rel => exact ⟨k + 1, by have := HKLT.out; omega, by go_num, hide ⟨mk, HMK.out, HSK.out, HFK.out⟩⟩
          case measure => have := HKLT.out; simp [intOf]; omega
        | false =>
          rw [hq] at mc
          have HQ := hide hq
          have HCT := hide (count_set (m := mk) (n := yn) (by have := HML2.out; omega) hq)
          obtain ⟨l2, hl2⟩ : ∃ l2, f.blocks[yn]? = some l2 := ⟨_, List.getElem?_eq_getElem (by have := HLS.out; omega)⟩
          have HL2 := hide hl2
          have HCO := hide (show codeOf f yn = l2.drop 0 by unfold codeOf; rw [hl2]; rfl)
          clear hq hl2
          go_upto_region 16 with (fail)
          obtain ⟨w4, hw4⟩ : ∃ w4, w4 = wq.setCell ⟨bm, yn, none⟩ (.bool true) := ⟨_, rfl⟩
          have HM4 := hide (show MB w4 bm (mk.set yn true) by rw [hw4]; exact HMK.out.set yn)
          have HF4 := hide (show But bm wq w4 by rw [hw4]; exact (But.refl bm wq).set)
          have HS4 := hide (show w4.heap.size = wq.heap.size by rw [hw4, World.size_setCell])
          rw [← hw4]
          clear hw4 mc mf cy
          have HF34 := hide (HFK.out.tr HF4.out)
          have HFW4 := hide (HFW.out.tr HF4.out)
          have HF14 := hide (HF1.out.tr HF4.out)
          have hz4 := HF4.out.size
          have cy := HCY.out w4 HF34.out
          have hb34 : b3 < w4.heap.size := by omega
          obtain ⟨c0, c1, c2, c3, c4⟩ := HK1.out w4 HF14.out
          have l4 : h5 < w4.heap.size := by have := HF14.out.size; omega
          have HCL := hide (HIH.out ((mk.set yn true).count false) (by have := HCT.out; have := HWF.out.cnt; have := HMU.out; omega) yn 0 (mk.set yn true) l2 (w4.drewN 1) rfl (by rw [List.length_set]; have := HML2.out; have := HLS.out; omega) HL2.out (Nat.zero_le _) (by have := HBW.out; have := HFW4.out.size; show B ≤ w4.heap.size; omega) (HKB.out (w4.drewN 1) (HFW4.out.drw 1)) HM4.out)
          have HSW := hide (fun (W : World) (hW : But bm w4 W) => (And.intro (HK1.out W (HF14.out.tr hW)) (HCY.out W (HF34.out.tr hW))))
          go_region_held3 (fun w' => (w'.cell? ⟨h5, 0, none⟩ = some (.slice Ak lk ck) ∧ w'.cell? ⟨h5, 1, none⟩ = some (.slice Ab lb cb) ∧ w'.cell? ⟨h5, 2, none⟩ = some (.int .i64 fp) ∧ w'.cell? ⟨h5, 3, none⟩ = some (.int .i64 fr) ∧ w'.cell? ⟨h5, 4, none⟩ = some (.slice (some ⟨bB, oB, none⟩) ls cs)) ∧ w'.cell? ⟨b3, o3 + k, none⟩ = some (.int .i64 (yn : Int))) (first | go_keep | (exact q5))
            (first
              | (go_at_call 64; refine HCL.out.mono ?_; rintro e w5 ⟨r, m5, rfl, hm5, hp5, hf5⟩; have hF5 : But bm w4 w5 := ⟨hf5.os, hf5.tape, hf5.output, hf5.size, hf5.block⟩; have q5 := HSW.out w5 hF5; have HM5 := hide hm5; have HP5 := hide hp5; have HF5 := hide hF5; clear hm5 hp5 hf5 hF5))
          all_goals
            rw [← HCO.out] at HP5
            cases r with
            | true =>
              have HE := hide (show FromP f v b (l.drop i) m true m5 from WF.yes HV.out HOKF.out (by rw [HNXE.out]; exact HWF.out) (by rw [HNXE.out]; exact HY.out) (by have := HML2.out; omega) HQ.out HS0.out HP5.out rfl)
              go_wp2
              go_ret
              exact ⟨true, m5, rfl, HM5.out, HE.out, HFW4.out.tr HF5.out⟩
            | false =>
              have HE := hide (HWF.out.call HY.out (by have := HML2.out; omega) HQ.out HP5.out rfl)
              go_wp2
              go_roundw
              case rel => exact ⟨k + 1, by have := HKLT.out; omega, by go_num, hide ⟨m5, HM5.out, HE.out, HF34.out.tr HF5.out⟩⟩
              case measure => have := HKLT.out; simp [intOf]; omega
    have HLT := hide hlt
    obtain ⟨x, hx⟩ : ∃ x, l[k]? = some x := ⟨_, List.getElem?_eq_getElem (by have := HN.out; omega)⟩
    have HX := hide hx
    have HXM := hide (List.mem_of_getElem? hx)
    obtain ⟨bx, ox, Ax, cx, hAB, hbx, hc7, hxi⟩ := (HXI.out w1 (But.ofB HB1.out)).get hx
    subst hAB
    have hbxB : bx < B := hbx
    have HC7 := hide (fun (W : World) (hW : Below w1.heap.size w1 W) => (show _ ∧ _ ∧ _ ∧ _ ∧ _ ∧ _ ∧ _ from ⟨(hW.cell (p := ⟨bx, ox + k * 7, none⟩) (by show bx < _; have := HBW.out; omega)).trans hc7.1, (hW.cell (p := ⟨bx, ox + k * 7 + 1, none⟩) (by show bx < _; have := HBW.out; omega)).trans hc7.2.1, (hW.cell (p := ⟨bx, ox + k * 7 + 2, none⟩) (by show bx < _; have := HBW.out; omega)).trans hc7.2.2.1, (hW.cell (p := ⟨bx, ox + k * 7 + 3, none⟩) (by show bx < _; have := HBW.out; omega)).trans hc7.2.2.2.1, (hW.cell (p := ⟨bx, ox + k * 7 + 4, none⟩) (by show bx < _; have := HBW.out; omega)).trans hc7.2.2.2.2.1, (hW.cell (p := ⟨bx, ox + k * 7 + 5, none⟩) (by show bx < _; have := HBW.out; omega)).trans hc7.2.2.2.2.2.1, (hW.cell (p := ⟨bx, ox + k * 7 + 6, none⟩) (by show bx < _; have := HBW.out; omega)).trans hc7.2.2.2.2.2.2⟩))
    have HXI2 := hide (fun (W : World) (hW : Below w1.heap.size w1 W) => hxi.keep (w' := W) (S' := (· < B)) (up hW (by have := HBW.out; omega)) (fun _ h => h))
    have HASK := hide (HAS.out x HXM.out (.slice Ax x.args.length cx) wo (by have := HBW.out; omega) (HXI2.out wo HC.out))
    have HSE := hide (fun (W : World) => sets4_any x Ax x.args.length cx W)
    obtain ⟨i0, i1, i2, i3, i4, i5, i6⟩ := HC7.out wo HC.out
    have HYES := hide (fun h => scanV_yes (v := (v : Int)) hx h)
    have HSET := hide (fun h h2 h3 => scanV_set (v := (v : Int)) hx h h2 h3)
    have HON := hide (fun h h2 => scanV_on (v := (v : Int)) hx h h2)
    have hbxo : bx < wo.heap.size := by have := HBW.out; omega
    have hk0 : (0 : Int) ≤ (k : Int) := by omega
    have hk1 : (k : Int) < (n : Int) := by omega
    obtain ⟨la, hla⟩ : ∃ la, x.args.length = la := ⟨_, rfl⟩
    rw [hla] at HASK HSE HC7 HXI2 i6
    clear hc7 hxi hla hx
    obtain ⟨bu, hbu⟩ : ∃ bu, decide ((v : Int) ∈ usesL x) = bu := ⟨_, rfl⟩
    rw [hbu] at HASK
    obtain ⟨bd, hbd⟩ : ∃ bd, hasB4 x.op 68 = bd := ⟨_, rfl⟩
    rw [hbd] at HSE HSET HON
    have HBD := hide hbd
    clear hbd
    generalize x.op = xop, x.d = xd, x.a = xa, x.b = xb, x.n = xn, x.m = xm at *
    cases bu with
    | true =>
      have HE := hide (show FromP f v b (l.drop i) m true m from FromP.found (by rw [HSC.out]; exact HYES.out (of_decide_eq_true hbu)))
      clear hbu
      go_wp2_with (go_at_call 93; (with_reducible refine (HASK.out).mono ?_); rintro e w2 ⟨rfl, hb2⟩; have HB2 := hide (HC.out.trans (hb2.mono lwo)); clear hb2)
      go_ret
      exact ⟨true, m, rfl, Box.below HMB.out (HB1.out.trans (HB2.out.mono w1s)), HE.out, HUP.out w2 (But.ofB HB2.out)⟩
    | false =>
      have HNU := hide (of_decide_eq_false hbu)
      clear hbu
      cases bd with
      | false =>
        have HE := hide (show scanV (v : Int) (l.drop i) = scanV (v : Int) (l.drop (k + 1)) by rw [HSC.out]; exact HON.out HNU.out (fun h => by cases h.1))
        go_wp2_with (first
          | (go_at_call 50; refine (HSE.out w2).mono ?_; rintro e w4 ⟨rfl, hb4⟩; have HB4 := hide (HB2.out.trans (hb4.mono HB2.out.size)); clear hb4)
          | (go_at_call 93; (with_reducible refine (HASK.out).mono ?_); rintro e w2 ⟨rfl, hb2⟩; have hc2 := HC.out.trans (hb2.mono lwo); obtain ⟨j0, j1, j2, j3, j4, j5, j6⟩ := HC7.out w2 hc2; have hbx2 : bx < w2.heap.size := (by have := hb2.size; omega); have HB2 := hide hc2; clear hb2 hc2))
        go_roundw
        case rel => exact ⟨k + 1, by omega, by have := HLT.out; omega, by go_num, HB4.out, HE⟩
        case measure => have := HLT.out; simp [intOf]; omega
      | true =>
        by_cases hdv : xd = (v : Int)
        · have HE := hide (show FromP f v b (l.drop i) m false m from FromP.set (by rw [HSC.out]; exact HSET.out HNU.out rfl hdv))
          have q : (xd == (v : Int)) = true := by simpa using hdv
          clear hdv
          go_wp2_with (first
            | (go_at_call 50; refine (HSE.out w2).mono ?_; rintro e w4 ⟨rfl, hb4⟩; have HB4 := hide (HB2.out.trans (hb4.mono HB2.out.size)); clear hb4)
            | (go_at_call 93; (with_reducible refine (HASK.out).mono ?_); rintro e w2 ⟨rfl, hb2⟩; have hc2 := HC.out.trans (hb2.mono lwo); obtain ⟨j0, j1, j2, j3, j4, j5, j6⟩ := HC7.out w2 hc2; have hbx2 : bx < w2.heap.size := (by have := hb2.size; omega); have HB2 := hide hc2; clear hb2 hc2))
          go_ret
          exact ⟨false, m, rfl, Box.below HMB.out (HB1.out.trans (HB4.out.mono w1s)), HE.out, HUP.out w4 (But.ofB HB4.out)⟩
        · have HE := hide (show scanV (v : Int) (l.drop i) = scanV (v : Int) (l.drop (k + 1)) by rw [HSC.out]; exact HON.out HNU.out (fun h => hdv h.2))
          have q : (xd == (v : Int)) = false := by simpa using hdv
          clear hdv
          go_wp2_with (first
            | (go_at_call 50; refine (HSE.out w2).mono ?_; rintro e w4 ⟨rfl, hb4⟩; have HB4 := hide (HB2.out.trans (hb4.mono HB2.out.size)); clear hb4)
            | (go_at_call 93; (with_reducible refine (HASK.out).mono ?_); rintro e w2 ⟨rfl, hb2⟩; have hc2 := HC.out.trans (hb2.mono lwo); obtain ⟨j0, j1, j2, j3, j4, j5, j6⟩ := HC7.out w2 hc2; have hbx2 : bx < w2.heap.size := (by have := hb2.size; omega); have HB2 := hide hc2; clear hb2 hc2))
          go_roundw
          case rel => exact ⟨k + 1, by omega, by have := HLT.out; omega, by go_num, HB4.out, HE⟩
          case measure => have := HLT.out; simp [intOf]; omega
end Go.Proofs.YtbofnlaacjgclaaDoor
