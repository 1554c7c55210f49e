/- Layer 8, the reference: kinds, Check. Condition: no instruction has more arguments than any machine's memory holds. -/
import Derived.Test.YthbnbaikdcfbmaaGreatDoorPmKXX
set_option linter.unusedSimpArgs false
set_option linter.unusedVariables false
set_option maxHeartbeats 8000000
set_option maxRecDepth 100000
namespace Go.Proofs.YthbnbaikdcfbmaaGreatDoor
open Go.RowKit
theorem mis_no {p : List FunV} (h : misB p = false) {f : FunV} (hf : f ∈ p) {l : List InsV} (hl : l ∈ f.blocks) {x : InsV} (hx : x ∈ l) : fitB p f x = true := by
 unfold misB at h
 have h1 : p.all (jfc p) = true := by simpa using h
 have h2 := List.all_eq_true.1 h1 f hf
 unfold jfc at h2
 exact List.all_eq_true.1 (List.all_eq_true.1 h2 l hl) x hx
theorem mis_yes {p : List FunV} {f : FunV} (hf : f ∈ p) {l : List InsV} (hl : l ∈ f.blocks) {x : InsV} (hx : x ∈ l) (h : fitB p f x = false) : misB p = true := by
 cases hm : misB p with
 | true => rfl
 | false => rw [mis_no hm hf hl hx] at h; cases h
theorem jqd (vp : Value) (p : List FunV) (e0 : Int) (w : World) (B : Nat) (hB : B <= w.heap.size) (hp : FunsV w (· < B) vp p) (h4 : jad p = true) (hm : misB p = false) :
  Calls Tryz.prog 34 #[.agg #[vp], .int .i64 e0] w fun e w' => e = .returned (.int .i64 e0) /\ Below w.heap.size w w' := by
 have HPK := hide (fun (W : World) (hW : Below w.heap.size w W) => hp.keep (up hW hB) (fun _ h => h))
 have HFT := hide (fun (n : Nat) (f : FunV) (hf : p[n]? = some f) (l : List InsV) (hl : l ∈ f.blocks) (x : InsV) (hx : x ∈ l) (va : Value) (W : World) (hW : Below w.heap.size w W) (hxi : InsI W (· < B) va x) => (show Calls Tryz.prog 30 #[.agg #[vp], .int .i64 (n : Int), .agg #[.int .i64 x.op, .int .i64 x.d, .int .i64 x.a, .int .i64 x.b, .int .i64 x.n, .int .i64 x.m, va]] W fun e w' => e = .returned (.bool true) /\ Below W.heap.size W w' from by
  have hfm := List.mem_of_getElem? hf
  obtain ⟨-, -, -, hall⟩ := jal h4
  obtain ⟨-, -, -, -, hmay⟩ := jah (hall f hfm)
  have t := jk9 vp p f n x va W B (by have := hW.size; omega) (hp.keep (up hW hB) (fun _ h => h)) hf hxi (jsb h4 hfm (hmay l hl x hx))
  rw [mis_no hm hfm hl hx] at t
  exact t))
 obtain ⟨Ap, cp, rfl, hcp, hmp⟩ := hp.open'
 obtain ⟨np, hnp⟩ := zl p.length
 have HNP := hide hnp
 rw [hnp] at HPK HFT hcp ⊢
 have hKO := jkw h4
 have HKO := hide hKO
 clear hp h4 hm hnp hKO
 go_enter Tryz.func34, Tryz.ntmps34
 go_upto_region 1 with (fail)
 obtain ⟨w1, hw1⟩ := zr (w.alloc (.cells #[.slice Ap np cp] 24))
 obtain ⟨h5, hh5⟩ := zl w.heap.size
 have HX0 := zx1 hw1 hh5
 have HB1 := zb1 hw1
 have w1s := HB1.out.size
 have w1z := zs1 hw1 hh5
 have HK0 := zk1 HX0
 have lHX0 := HX0.out.lt
 have h5g : w.heap.size <= h5 := by omega
 rw [<- hw1, hh5]
 clear hw1 hh5
 have HBB := hide (show B <= w1.heap.size by omega)
 go_wp2
 go_loopw [5] (fun i wr => ∃ k : Nat, k <= np /\ i = .int .i64 k /\ Below w1.heap.size w1 wr) (fun i _ => np - (intOf i).toNat)
 case atStart => exact ⟨0, Nat.zero_le _, rfl, Below.refl _ _⟩
 case round =>
  obtain ⟨k, hk, rfl, hb⟩ := hrel
  obtain ⟨wo, rfl⟩ := zr wr
  have HC := hide hb
  have HW := hide (HB1.out.trans (hb.mono HB1.out.size))
  have p0 := HK0.out wo hb
  have lwo := hb.size
  have l5 : h5 < wo.heap.size := by omega
  clear hb
  by_cases hlt : k < np
  case neg =>
   obtain rfl : np = k := by omega
   have hnl : ¬ ((np : Int) < (np : Int)) := by omega
   go_wp2
   go_ret
   exact ⟨rfl, HW.out⟩
  obtain ⟨f, hf⟩ : ∃ f, p[k]? = some f := ⟨_, List.getElem?_eq_getElem (by have := HNP.out; omega)⟩
  obtain ⟨bg, og, Ak, ck, Ab, cb, As, cs, hAp, hbgb, ⟨e0', e1, e2, e3, e4⟩, hi⟩ := (HPK.out wo HW.out).get hf
  subst hAp
  have hbs : bg < wo.heap.size := by have := HBB.out; omega
  have HFT1 := hide (HFT.out k f hf)
  have hls40 := (HKO.out f (List.mem_of_getElem? hf)).flow.1
  have HBL := hide (fun (W : World) (hW : Below wo.heap.size wo W) => (hi.keep (w := wo) (S := (· < B)) (S' := (· < B)) (up hW (by have := HBB.out; omega)) (fun _ h => h)).2.2.1)
  obtain ⟨ls, hls⟩ := zl f.blocks.length
  have HLS := hide hls
  rw [hls] at HBL e4 hls40
  clear hi hls hf
  generalize f.kinds.length = lk, f.base.length = lb, f.params = fp, f.result = fr at *
  have rk0 : (0 : Int) <= (k : Int) := by omega
  have rk1 : (k : Int) < (np : Int) := by omega
  go_upto_region 5 with (fail)
  obtain ⟨w5, hw5⟩ := zr (wo.alloc (.cells #[.slice Ak lk ck, .slice Ab lb cb, .int .i64 fp, .int .i64 fr, .slice As ls cs] 52))
  obtain ⟨h6, hh6⟩ := zl wo.heap.size
  have HFX0 := zx1 hw5 hh6
  have HB5 := zb1 hw5
  have w5s := HB5.out.size
  have w5z := zs1 hw5 hh6
  have HFK0 := zk5 HFX0
  have lHFX0 := HFX0.out.lt
  have h6g : wo.heap.size <= h6 := by omega
  rw [<- hw5, hh6]
  clear hw5 hh6
  clear e0' e1 e2 e3 e4 p0 l5
  have HUP := hide (fun (W : World) (hW : Below w5.heap.size w5 W) => HB5.out.trans (hW.mono HB5.out.size))
  have HC5 := hide (HC.out.trans (HB5.out.mono HC.out.size))
  go_wp2
  go_loopw [7] (fun i wr => ∃ b : Nat, b <= ls /\ i = .int .i64 b /\ Below w5.heap.size w5 wr) (fun i _ => ls - (intOf i).toNat)
  case atStart => exact ⟨0, Nat.zero_le _, rfl, Below.refl _ _⟩
  case round =>
   obtain ⟨b, hbk, rfl, hb⟩ := hrel
   obtain ⟨wb, rfl⟩ := zr wr
   have HD := hide hb
   obtain ⟨c0, c1, c2, c3, c4⟩ := HFK0.out wb hb
   have lwb := hb.size
   have l6 : h6 < wb.heap.size := by omega
   clear hb
   by_cases hltb : b < ls
   case neg =>
    obtain rfl : ls = b := by omega
    have hnl : ¬ ((ls : Int) < (ls : Int)) := by omega
    go_wp2
    go_roundw
    case rel => exact ⟨k + 1, by omega, by go_num, HC5.out.trans (HD.out.mono HC5.out.size)⟩
    case measure => simp [intOf]; omega
   obtain ⟨l, hl⟩ : ∃ l, f.blocks[b]? = some l := ⟨_, List.getElem?_eq_getElem (by have := HLS.out; omega)⟩
   have HFT2 := hide (HFT1.out l (List.mem_of_getElem? hl))
   obtain ⟨bb, ob, Al, cl, hAs, hbb, q0, hli⟩ := (HBL.out wb (HUP.out wb HD.out)).get hl
   subst hAs
   have lbB : B <= wb.heap.size := by have := HBB.out; omega
   have hbs9 : bb < wb.heap.size := by omega
   have HLI := hide (fun (W : World) (hW : Below wb.heap.size wb W) => hli.keep (S := (· < B)) (S' := (· < B)) (up hW lbB) (fun _ h => h))
   have hm4 : l.length <= 9223372036854775807 := by obtain ⟨A, c, -, h1, h2⟩ := hli.open'; omega
   obtain ⟨ll, hll⟩ := zl l.length
   have HLL := hide hll
   rw [hll] at HLI hm4 q0
   have HD0 := hide (fun (W : World) (hW : Below wb.heap.size wb W) => (hW.cell (p := ⟨bb, ob + b, none⟩) hbs9).trans q0)
   clear hli hll hl q0
   have rb0 : (0 : Int) <= (b : Int) := by omega
   have rb1 : (b : Int) < (ls : Int) := by omega
   have HFKb := hide (fun (W : World) (hW : Below wb.heap.size wb W) => HFK0.out W (HD.out.trans (hW.mono HD.out.size)))
   go_wp2
   clear c0 c1 c2 c3 c4 l6
   go_loopw [8] (fun j wr => ∃ i : Nat, i <= ll /\ j = .int .i64 i /\ Below wb.heap.size wb wr) (fun j _ => ll - (intOf j).toNat)
   case atStart => exact ⟨0, Nat.zero_le _, rfl, Below.refl _ _⟩
   case round =>
    obtain ⟨i, hik, rfl, hb⟩ := hrel
    obtain ⟨wi, rfl⟩ := zr wr
    have HG := hide hb
    obtain ⟨c0, c1, c2, c3, c4⟩ := HFKb.out wi hb
    have d0 := HD0.out wi hb
    have lwi := hb.size
    have l6 : h6 < wi.heap.size := by omega
    have lbb : bb < wi.heap.size := by omega
    have HDI := hide (HD.out.trans (hb.mono HD.out.size))
    have HWI := hide (HW.out.trans ((HUP.out wi HDI.out).mono HW.out.size))
    have HCI := hide (HC5.out.trans (HDI.out.mono HC5.out.size))
    clear hb
    by_cases hlti : i < ll
    case neg =>
     obtain rfl : ll = i := by omega
     have hnl : ¬ ((ll : Int) < (ll : Int)) := by omega
     go_wp2
     go_roundw
     case rel => exact ⟨b + 1, by omega, by go_num, HDI.out⟩
     case measure => simp [intOf]; omega
    obtain ⟨x, hx⟩ : ∃ x, l[i]? = some x := ⟨_, List.getElem?_eq_getElem (by have := HLL.out; omega)⟩
    obtain ⟨bx, ox, Ay, cy, hAl, hbx, ⟨z0, z1, z2, z3, z4, z5, z6⟩, hxi⟩ := (HLI.out wi HG.out).get hx
    subst hAl
    have lbx : bx < wi.heap.size := by omega
    have HFX2 := hide (HFT2.out x (List.mem_of_getElem? hx) (.slice Ay x.args.length cy) wi.drew (ja0 HWI.out 1) hxi)
    clear hxi hx
    generalize x.args.length = ly, x.op = yo, x.d = yd, x.a = ya, x.b = yb, x.n = yn, x.m = ym at *
    have ri0 : (0 : Int) <= (i : Int) := by omega
    have ri1 : (i : Int) < (ll : Int) := by omega
    have p0 := HK0.out wi HCI.out
    have l5 : h5 < wi.heap.size := by have := HCI.out.size; omega
    have HQ := hide (fun (W : World) (hW : Below wi.heap.size wi W) => And.intro ((hW.cell (p := ⟨h5, 0, none⟩) l5).trans p0) (And.intro ((hW.cell (p := ⟨h6, 4, none⟩) l6).trans c4) (And.intro ((hW.cell (p := ⟨bb, ob + b, none⟩) lbb).trans d0) (And.intro ((hW.cell (p := ⟨bx, ox + i * 7, none⟩) lbx).trans z0) (And.intro ((hW.cell (p := ⟨bx, ox + i * 7 + 1, none⟩) lbx).trans z1) (And.intro ((hW.cell (p := ⟨bx, ox + i * 7 + 2, none⟩) lbx).trans z2) (And.intro ((hW.cell (p := ⟨bx, ox + i * 7 + 3, none⟩) lbx).trans z3) (And.intro ((hW.cell (p := ⟨bx, ox + i * 7 + 4, none⟩) lbx).trans z4) (And.intro ((hW.cell (p := ⟨bx, ox + i * 7 + 5, none⟩) lbx).trans z5) ((hW.cell (p := ⟨bx, ox + i * 7 + 6, none⟩) lbx).trans z6))))))))))
    go_wp2_with fail
    go_region_held3 (fun w' => w'.cell? ⟨h5, 0, none⟩ = some (.slice (some ⟨bg, og, none⟩) np cp) /\ w'.cell? ⟨h6, 4, none⟩ = some (.slice (some ⟨bb, ob, none⟩) ls cs) /\ w'.cell? ⟨bb, ob + b, none⟩ = some (.slice (some ⟨bx, ox, none⟩) ll cl) /\ w'.cell? ⟨bx, ox + i * 7, none⟩ = some (.int .i64 yo) /\ w'.cell? ⟨bx, ox + i * 7 + 1, none⟩ = some (.int .i64 yd) /\ w'.cell? ⟨bx, ox + i * 7 + 2, none⟩ = some (.int .i64 ya) /\ w'.cell? ⟨bx, ox + i * 7 + 3, none⟩ = some (.int .i64 yb) /\ w'.cell? ⟨bx, ox + i * 7 + 4, none⟩ = some (.int .i64 yn) /\ w'.cell? ⟨bx, ox + i * 7 + 5, none⟩ = some (.int .i64 ym) /\ w'.cell? ⟨bx, ox + i * 7 + 6, none⟩ = some (.slice Ay ly cy)) (first | go_keep | (exact q8))
     (first
      | (go_at_call 30; refine (HFX2.out).mono ?_; rintro e w8 ⟨rfl, hb8⟩; have hb8' : Below wi.heap.size wi w8 := ⟨hb8.os, hb8.tape, hb8.output, hb8.size, hb8.block⟩; have q8 := HQ.out w8 hb8'; have HB8 := hide hb8'; clear hb8 hb8'))
    go_wp2
    go_roundw
    case rel => exact ⟨i + 1, by omega, by go_num, HG.out.trans (HB8.out.mono HG.out.size)⟩
    case measure => simp [intOf]; omega
def jhd (st : Bool) (f : FunV) (l : List InsV) (s : KSt) (i : Nat) : Bool := (List.range i).any fun j => match l[j]? with
 | some x => (jas x).any (fun v => je0 st f v (thrW f (l.take j) s))
 | none => false
theorem jpd {st : Bool} {f : FunV} {l : List InsV} {s : KSt} {i : Nat} {x : InsV} (h : l[i]? = some x) : jhd st f l s (i + 1) = (jhd st f l s i || (jas x).any (fun v => je0 st f v (thrW f (l.take i) s))) := by
 unfold jhd
 rw [List.range_succ, List.any_append]
 simp [h]
def fnTo (st : Bool) (f : FunV) (R : Nat -> Bool) (σ : Nat -> KSt) (b : Nat) : Bool := (List.range b).any fun c => match f.blocks[c]? with
 | some l => R c && jhd st f l (σ c) l.length
 | none => false
theorem js7 {st : Bool} {f : FunV} {R : Nat -> Bool} {σ : Nat -> KSt} {b : Nat} {l : List InsV} (h : f.blocks[b]? = some l) : fnTo st f R σ (b + 1) = (fnTo st f R σ b || (R b && jhd st f l (σ b) l.length)) := by
 unfold fnTo
 rw [List.range_succ, List.any_append]
 simp [h]
theorem fnTo_iff {st : Bool} {f : FunV} {R : Nat -> Bool} {σ : Nat -> KSt} (hR : ∀ b : Nat, (R b = true ↔ Pth f 0 (b : Int))) (hσ : ∀ b, KAt f b (σ b)) : fnTo st f R σ f.blocks.length = true ↔ AskF st f := by
 unfold fnTo
 rw [List.any_eq_true]
 constructor
 ·rintro ⟨c, hc, h⟩
  obtain ⟨l, hl⟩ : ∃ l, f.blocks[c]? = some l := ⟨_, List.getElem?_eq_getElem (List.mem_range.1 hc)⟩
  rw [hl] at h
  simp only [Bool.and_eq_true] at h
  exact ⟨c, l, σ c, hl, (hR c).1 h.1, hσ c, askL_iff.2 h.2⟩
 ·rintro ⟨c, l, s, hl, hp, hs, ha⟩
  obtain rfl := hs.one (hσ c)
  refine ⟨c, List.mem_range.2 (List.getElem?_eq_some_iff.1 hl).1, ?_⟩
  rw [hl]
  simp only [Bool.and_eq_true]
  exact ⟨(hR c).2 hp, askL_iff.1 ha⟩
noncomputable def pgTo (st : Bool) (p : List FunV) (n : Nat) : Bool := (p.take n).any fun f => @decide (AskF st f) (Classical.propDecidable _)
theorem jqn {st : Bool} {p : List FunV} {n : Nat} {f : FunV} {b : Bool} (h : p[n]? = some f) (hb : b = true ↔ AskF st f) : pgTo st p (n + 1) = (pgTo st p n || b) := by
 unfold pgTo
 rw [List.take_add_one, h, List.any_append]
 have e : (@decide (AskF st f) (Classical.propDecidable _)) = b := by rw [Bool.eq_iff_iff, hb, @decide_eq_true_iff _ (Classical.propDecidable _)]
 simp [e]
theorem pgTo_iff {st : Bool} {p : List FunV} : pgTo st p p.length = true ↔ jlp st p := by
 unfold pgTo jlp
 rw [List.take_length, List.any_eq_true]
 exact ⟨fun ⟨f, h1, h2⟩ => ⟨f, h1, @of_decide_eq_true _ (Classical.propDecidable _) h2⟩, fun ⟨f, h1, h2⟩ => ⟨f, h1, @decide_eq_true _ (Classical.propDecidable _) h2⟩⟩
theorem jjf {α : Type} {P : α -> Bool} {l : List α} {k : Nat} {x : α} (h : l[k]? = some x) : (l.take (k + 1)).any P = ((l.take k).any P || P x) := by
 rw [List.take_add_one, h, List.any_append]
 simp
theorem jn5 {u rb a a' : Bool} {E : Nat -> Bool} {k lu : Nat} (h0 : E 0 = false) (ha : a' = (a || E lu)) (hf : rb = false -> k = 0) (ht : rb = true -> k = lu) : ((u || (rb && a)) || E k) = (u || (rb && a')) := by
 subst ha
 cases rb
 ·rw [hf rfl, h0]; simp
 ·rw [ht rfl]; simp [Bool.or_assoc]
theorem jgi {α : Type} {P : α -> Prop} {l : List α} {n : Nat} {x : α} (h : ∀ y ∈ l.take n, P y) (hx : l[n]? = some x) (hp : P x) : ∀ y ∈ l.take (n + 1), P y := fun y hy => by
 rw [List.take_add_one, hx] at hy
 rcases List.mem_append.1 hy with hy | hy
 ·exact h y hy
 ·simp at hy
  subst hy
  exact hp
theorem job (vp : Value) (p : List FunV) (w : World) (B : Nat) (hB : B <= w.heap.size) (hp : FunsV w (· < B) vp p) (hfew : jaz p) :
  Calls Tryz.prog 21 #[.agg #[vp]] w fun e w' => ∃ n : Nat, e = .returned (.int .i64 (n : Int)) /\ ChkR p n /\ Below w.heap.size w w' := by
 have HC4 := hide (fun (W : World) (hW : Below w.heap.size w W) => jp4 vp p W B (by have := hW.size; omega) (hp.keep (up hW hB) (fun _ h => h)) hfew)
 obtain ⟨b4, hb4⟩ := zl (jad p)
 cases b4
 case false =>
  have hc : jef p = 5 := by unfold jef; rw [hb4]; rfl
  rw [hc] at HC4
  have HCR := hide (show ChkR p 5 from .inl ⟨hb4, rfl⟩)
  obtain ⟨Ap, cp, rfl, hcp, hmp⟩ := hp.open'
  generalize p.length = np at *
  clear hp hb4 hc hfew
  go_enter Tryz.func21, Tryz.ntmps21
  go_upto_region 1 with (fail)
  obtain ⟨w1, hw1⟩ := zr (w.alloc (.cells #[.slice Ap np cp] 24))
  obtain ⟨h5, hh5⟩ := zl w.heap.size
  have HX0 := zx1 hw1 hh5
  have HB1 := zb1 hw1
  have w1s := HB1.out.size
  have w1z := zs1 hw1 hh5
  have HK0 := zk1 HX0
  have lHX0 := HX0.out.lt
  have h5g : w.heap.size <= h5 := by omega
  rw [<- hw1, hh5]
  clear hw1 hh5
  have p0 := HK0.out w1 (Below.refl _ _)
  go_wp2_with (go_at_call 27; (with_reducible refine (HC4.out w1 HB1.out).mono ?_); rintro e w2 ⟨rfl, hb2⟩; have HB2 := hide (HB1.out.trans (hb2.mono HB1.out.size)); clear hb2)
  go_ret
  exact ⟨5, rfl, HCR.out, HB2.out⟩
 have hc : jef p = 0 := by unfold jef; rw [hb4]; rfl
 rw [hc] at HC4
 have HB4p := hide hb4
 have HKO := hide (jkw hb4)
 have HDB := hide (derB_of hb4)
 have HPK := hide (fun (W : World) (hW : Below w.heap.size w W) => hp.keep (up hW hB) (fun _ h => h))
 have HFT := hide (fun (n : Nat) (f : FunV) (hf : p[n]? = some f) (l : List InsV) (hl : l ∈ f.blocks) (x : InsV) (hx : x ∈ l) (va : Value) (W : World) (hW : Below w.heap.size w W) (hxi : InsI W (· < B) va x) => (show Calls Tryz.prog 30 #[.agg #[vp], .int .i64 (n : Int), .agg #[.int .i64 x.op, .int .i64 x.d, .int .i64 x.a, .int .i64 x.b, .int .i64 x.n, .int .i64 x.m, va]] W fun e w' => e = .returned (.bool (fitB p f x)) /\ Below W.heap.size W w' from by
  have hfm := List.mem_of_getElem? hf
  obtain ⟨-, -, -, hall⟩ := jal hb4
  obtain ⟨-, -, -, -, hmay⟩ := jah (hall f hfm)
  exact jk9 vp p f n x va W B (by have := hW.size; omega) (hp.keep (up hW hB) (fun _ h => h)) hf hxi (jsb hb4 hfm (hmay l hl x hx))))
 have HUR := hide (fun (f : FunV) (hf : f ∈ p) (l : List InsV) (hl : l ∈ f.blocks) (x : InsV) (hx : x ∈ l) => (show ∀ v ∈ jas x, 0 <= v /\ v < f.kinds.length from fun v hv => by
  obtain ⟨-, -, -, hall⟩ := jal hb4
  obtain ⟨-, -, -, -, hmay⟩ := jah (hall f hf)
  exact jc6 ((jcm (hmay l hl x hx)).2.2.2.1 v hv)))
 have HFW := hide (fun (f : FunV) (hf : f ∈ p) (l : List InsV) (hl : l ∈ f.blocks) (x : InsV) (hx : x ∈ l) => (show x.args.length <= 17592186044000 from by have := hfew f hf l hl x hx; omega))
 have HKN := hide (fun (e0 : Int) (hm : misB p = false) (W : World) (hW : Below w.heap.size w W) => jqd vp p e0 W B (by have := hW.size; omega) (hp.keep (up hW hB) (fun _ h => h)) hb4 hm)
 have HM6 := hide (fun (f : FunV) (hf : f ∈ p) (l : List InsV) (hl : l ∈ f.blocks) (x : InsV) (hx : x ∈ l) (h : fitB p f x = false) => (show ChkR p 6 from .inr (.inl ⟨hb4, mis_yes hf hl hx h, rfl⟩)))
 have HEND := hide (fun (hm : misB p = false) => (show (pgTo false p p.length = true -> ChkR p 7) /\ (pgTo false p p.length = false -> pgTo true p p.length = true -> ChkR p 8) /\ (pgTo false p p.length = false -> pgTo true p p.length = false -> ChkR p 0) from
  ⟨fun h => .inr (.inr (.inl ⟨hb4, hm, pgTo_iff.1 h, rfl⟩)), fun h h2 => .inr (.inr (.inr (.inl ⟨hb4, hm, (fun h3 => by rw [pgTo_iff.2 h3] at h; cases h), pgTo_iff.1 h2, rfl⟩))), fun h h2 => .inr (.inr (.inr (.inr ⟨hb4, hm, fun h3 => (by rw [pgTo_iff.2 h3] at h; cases h), fun h3 => (by rw [pgTo_iff.2 h3] at h2; cases h2), rfl⟩)))⟩))
 have HMN := hide (fun (h : ∀ f ∈ p.take p.length, jfc p f = true) => (show misB p = false from by
  unfold misB
  rw [List.take_length] at h
  rw [List.all_eq_true.2 h]
  rfl))
 obtain ⟨Ap, cp, rfl, hcp, hmp⟩ := hp.open'
 obtain ⟨np, hnp⟩ := zl p.length
 have HNP := hide hnp
 rw [hnp] at HC4 HPK HFT HKN HEND HMN hcp ⊢
 clear hp hb4 hc hfew hnp
 go_enter Tryz.func21, Tryz.ntmps21
 go_upto_region 1 with (fail)
 obtain ⟨w1, hw1⟩ := zr (w.alloc (.cells #[.slice Ap np cp] 24))
 obtain ⟨h5, hh5⟩ := zl w.heap.size
 have HX0 := zx1 hw1 hh5
 have HB1 := zb1 hw1
 have w1s := HB1.out.size
 have w1z := zs1 hw1 hh5
 have HK0 := zk1 HX0
 have lHX0 := HX0.out.lt
 have h5g : w.heap.size <= h5 := by omega
 rw [<- hw1, hh5]
 clear hw1 hh5
 have p0 := HK0.out w1 (Below.refl _ _)
 have HBB := hide (show B <= w1.heap.size by omega)
 go_upto_region 3 with (go_at_call 27; (with_reducible refine (HC4.out w1 HB1.out).mono ?_); rintro e w2 ⟨rfl, hb2⟩; have HC2 := hide hb2; have HB2 := hide (HB1.out.trans (hb2.mono HB1.out.size)); clear hb2)
 clear p0
 have l12 := HC2.out.size
 have hP0 : pgTo false p 0 = false := rfl
 have hP1 : pgTo true p 0 = false := rfl
 have HP0 := hide hP0
 have HP1 := hide hP1
 clear hP0 hP1
 go_wp2
 go_loopw [3, 4, 5] (fun a1 a2 i wr => ∃ n : Nat, n <= np /\ a1 = .bool (pgTo false p n) /\ a2 = .bool (pgTo true p n) /\ i = .int .i64 n /\ Hid (∀ f ∈ p.take n, jfc p f = true) /\ Below w2.heap.size w2 wr) (fun _ _ i _ => np - (intOf i).toNat)
 case atStart => exact ⟨0, Nat.zero_le _, by rw [HP0.out], by rw [HP1.out], rfl, hide (by simp), Below.refl _ _⟩
 case round =>
  obtain ⟨n, hn, rfl, rfl, rfl, HAF, hb⟩ := hrel
  obtain ⟨wo, rfl⟩ := zr wr
  have HC := hide hb
  have HD := hide (HC2.out.trans (hb.mono HC2.out.size))
  have HW := hide (HB2.out.trans (hb.mono HB2.out.size))
  have p0 := HK0.out wo HD.out
  have lwo := hb.size
  have l5 : h5 < wo.heap.size := by omega
  clear hb
  by_cases hlt : n < np
  case neg =>
   obtain rfl : np = n := by omega
   have hnl : ¬ ((np : Int) < (np : Int)) := by omega
   have hmis := HMN.out HAF.out
   obtain ⟨E1, E2, E3⟩ := HEND.out hmis
   have HE1 := hide E1
   have HE2 := hide E2
   have HE3 := hide E3
   have HK7 := hide (HKN.out 7 hmis)
   have HK8 := hide (HKN.out 8 hmis)
   clear E1 E2 E3 hmis HP0 HP1
   generalize pgTo false p np = pu at *
   generalize pgTo true p np = ps at *
   cases pu
   case true =>
    go_wp2_with (go_at_call 34; (with_reducible refine (HK7.out wo HW.out).mono ?_); rintro e w4 ⟨rfl, hb4⟩; have HB4 := hide (HW.out.trans (hb4.mono HW.out.size)); clear hb4)
    go_ret
    exact ⟨7, rfl, HE1.out (by simp), HB4.out⟩
   cases ps
   case true =>
    go_wp2_with (go_at_call 34; (with_reducible refine (HK8.out wo HW.out).mono ?_); rintro e w4 ⟨rfl, hb4⟩; have HB4 := hide (HW.out.trans (hb4.mono HW.out.size)); clear hb4)
    go_ret
    exact ⟨8, rfl, HE2.out (by simp) (by simp), HB4.out⟩
   go_wp2
   go_ret
   exact ⟨0, rfl, HE3.out (by simp) (by simp), HW.out⟩
  obtain ⟨f, hf⟩ : ∃ f, p[n]? = some f := ⟨_, List.getElem?_eq_getElem (by have := HNP.out; omega)⟩
  have hfm := List.mem_of_getElem? hf
  obtain ⟨bg, og, Ak, ck, Ab, cb, As, cs, hAp, hbgb, ⟨e0', e1, e2, e3, e4⟩, hi⟩ := (HPK.out wo HW.out).get hf
  subst hAp
  have hbs : bg < wo.heap.size := by have := HBB.out; omega
  have lbB : B <= wo.heap.size := by have := HBB.out; omega
  have HOK := hide (HKO.out f hfm)
  have HDF := hide (HDB.out f hfm)
  have HFT1 := hide (HFT.out n f hf)
  have HUR1 := hide (HUR.out f hfm)
  have HFW1 := hide (HFW.out f hfm)
  have HM61 := hide (HM6.out f hfm)
  have HIK := hide (fun (W : World) (hW : Below wo.heap.size wo W) => hi.keep (w := wo) (S := (· < B)) (S' := (· < B)) (up hW lbB) (fun _ h => h))
  have HST := hide (fun (W : World) (hW : Below wo.heap.size wo W) => jm1 (.slice Ak f.kinds.length ck) (.slice Ab f.base.length cb) (.slice As f.blocks.length cs) f W B (by have := hW.size; omega) (HIK.out W hW) HOK.out HDF.out)
  have HWT := hide (fun (W : World) (hW : Below wo.heap.size wo W) => (show Calls Tryz.prog 29 #[.agg #[.slice Ak f.kinds.length ck, .slice Ab f.base.length cb, .int .i64 f.params, .int .i64 f.result, .slice As f.blocks.length cs], .int .i64 0, .int .i64 (-1)] W fun e w' => ∃ bm m, e = .returned (.slice (some ⟨bm, 0, none⟩) f.blocks.length f.blocks.length) /\ W.heap.size <= bm /\ MB w' bm m /\ (m.length = f.blocks.length /\ ∀ b : Nat, (metB m (b : Int) = true ↔ Pth f 0 (b : Int))) /\ Below W.heap.size W w' from
   (jfx (.slice Ak f.kinds.length ck) (.slice Ab f.base.length cb) (.slice As f.blocks.length cs) f (-1) 0 (by omega) W B (by have := hW.size; omega) (HIK.out W hW) HOK.out.flow HOK.out.one).mono fun e w' ⟨bm, m, h1, h2, h3, h4, h5⟩ => ⟨bm, m, h1, h2, h3, ⟨h4.1.len, fun b => jhs HOK.out.flow h4.1 h4.2 b⟩, h5⟩))
  have HRT := hide (fun (l : List InsV) (hl : l ∈ f.blocks) (x : InsV) (hx : x ∈ l) (va : Value) (W : World) (hW : Below wo.heap.size wo W) (hxi : InsI W (· < B) va x) (v1 v2 : Value) (s : KSt) (hs : GoodK f s) (g1 : SetV W v1 s.1) (g2 : SetV W v2 s.2) => jk8 (.slice Ak f.kinds.length ck) (.slice Ab f.base.length cb) (.slice As f.blocks.length cs) f x va W B (by have := hW.size; omega) (HIK.out W hW) hxi v1 v2 s hs g1 g2 HOK.out.kinds HOK.out.bl HDF.out (HOK.out.sets l hl x hx))
  have HSR := hide (fun (l : List InsV) (hl : l ∈ f.blocks) (x : InsV) (hx : x ∈ l) (s : KSt) (hs : GoodK f s) => jfh hs HOK.out.kinds (HOK.out.sets l hl x hx))
  have HNX := hide (fun (m : List Bool) (σ : Nat -> KSt) (hm : ∀ b : Nat, (metB m (b : Int) = true ↔ Pth f 0 (b : Int))) (hσ : ∀ b, KAt f b (σ b)) (st : Bool) => (show pgTo st p (n + 1) = (pgTo st p n || fnTo st f (fun b => metB m (b : Int)) σ f.blocks.length) from jqn hf (fnTo_iff hm hσ)))
  have HFS := hide (fun (m : List Bool) (σ : Nat -> KSt) (b : Nat) (l : List InsV) (hl : f.blocks[b]? = some l) (st : Bool) => (show fnTo st f (fun b => metB m (b : Int)) σ (b + 1) = (fnTo st f (fun b => metB m (b : Int)) σ b || (metB m (b : Int) && jhd st f l (σ b) l.length)) from js7 hl))
  have HAFN := hide (fun (h : ∀ l ∈ f.blocks.take f.blocks.length, l.all (fitB p f) = true) => (show ∀ f ∈ p.take (n + 1), jfc p f = true from jgi HAF.out hf (by unfold jfc; rw [List.take_length] at h; exact List.all_eq_true.2 h)))
  have HF00 := hide (fun (m : List Bool) (σ : Nat -> KSt) (st : Bool) => (show fnTo st f (fun b => metB m (b : Int)) σ 0 = false from rfl))
  have HBL := hide (fun (W : World) (hW : Below wo.heap.size wo W) => (HIK.out W hW).2.2.1)
  have HKL := hide (fun (W : World) (hW : Below wo.heap.size wo W) => (HIK.out W hW).1)
  have hls40 := HOK.out.flow.1
  have hlk48 := HOK.out.kinds
  have HKQ := hide (fun (v : Int) (h : 0 <= v /\ v < f.kinds.length) => (show ∃ (m : Nat) (y : Int), v = (m : Int) /\ m < f.kinds.length /\ f.kinds[m]? = some y from ⟨v.toNat, f.kinds[v.toNat]'(by omega), by omega, by omega, List.getElem?_eq_getElem (by omega)⟩))
  obtain ⟨ls, hls⟩ := zl f.blocks.length
  have HLS := hide hls
  rw [hls] at HST HWT HRT HNX HAFN HBL e4 hls40
  clear hi hls hf hfm HIK
  generalize f.kinds.length = lk, f.base.length = lb, f.params = fp, f.result = fr at *
  have rn0 : (0 : Int) <= (n : Int) := by omega
  have rn1 : (n : Int) < (np : Int) := by omega
  go_upto_region 8 with (fail)
  obtain ⟨w5, hw5⟩ := zr (wo.alloc (.cells #[.slice Ak lk ck, .slice Ab lb cb, .int .i64 fp, .int .i64 fr, .slice As ls cs] 52))
  obtain ⟨h6, hh6⟩ := zl wo.heap.size
  have HFX0 := zx1 hw5 hh6
  have HB5 := zb1 hw5
  have w5s := HB5.out.size
  have w5z := zs1 hw5 hh6
  have HFK0 := zk5 HFX0
  have lHFX0 := HFX0.out.lt
  have h6g : wo.heap.size <= h6 := by omega
  rw [<- hw5, hh6]
  clear hw5 hh6
  obtain ⟨c0, c1, c2, c3, c4⟩ := HFK0.out w5 (Below.refl _ _)
  clear e0' e1 e2 e3 e4 p0
  have HUP := hide (fun (W : World) (hW : Below w5.heap.size w5 W) => HB5.out.trans (hW.mono HB5.out.size))
  go_upto_region 10 with (first
   | (go_at_call 29; (with_reducible refine (HWT.out w6 (HUP.out w6 HC6.out)).mono ?_); rintro e w8 ⟨bm, m, rfl, hbm, hmb, ⟨hml, hmp⟩, hb⟩; have hc8 := HC6.out.trans (hb.mono HC6.out.size); have HC8 := hide hc8; have HMB := hide hmb; have HML := hide hml; have HMP := hide hmp; have HA18 := hide (HA1.out.below hb); have HA28 := hide (HA2.out.below hb); clear hb hc8 hmb hml hmp hbm)
   | (go_at_call 28; (with_reducible refine (HST.out w5 (HUP.out w5 (Below.refl _ _))).mono ?_); rintro e w6 ⟨g1, g2, σ, rfl, ha1, ha2, hat, hb6⟩; have HC6 := hide hb6; have HA1 := hide ha1; have HA2 := hide ha2; have HAT := hide hat; obtain ⟨t0, t1, t2, t3, t4⟩ := HFK0.out w6 hb6; have l66 : h6 < w6.heap.size := (by have := hb6.size; omega); clear ha1 ha2 hat hb6))
  clear c0 c1 c2 c3 c4 t0 t1 t2 t3 t4 l66 HA1 HA2 HST HWT
  have HML' := hide HML.out
  have lw8 := HC8.out.size
  have HN1 := hide (HNX.out m σ HMP.out HAT.out)
  have HFS1 := hide (HFS.out m σ)
  have HF01 := hide (HF00.out m σ)
  have HSG := hide (fun b => (HAT.out b).good)
  clear HNX HFS HF00 HMP HAT
  obtain ⟨FN, hFN⟩ : ∃ FN : Bool -> Nat -> Bool, (fun st b => fnTo st f (fun b => metB m (b : Int)) σ b) = FN := ⟨_, rfl⟩
  have hFN2 : ∀ st b, fnTo st f (fun b => metB m (b : Int)) σ b = FN st b := fun st b => by rw [<- hFN]
  simp only [hFN2] at HN1 HFS1 HF01
  have HN1f := hide (HN1.out false)
  have HN1t := hide (HN1.out true)
  clear hFN hFN2 HN1
  generalize pgTo false p n = pu at *
  generalize pgTo true p n = ps at *
  go_wp2
  go_loopw [3, 4, 10] (fun a1 a2 i wr => ∃ b : Nat, b <= ls /\ a1 = .bool (pu || FN false b) /\ a2 = .bool (ps || FN true b) /\ i = .int .i64 b /\ Hid (∀ l ∈ f.blocks.take b, l.all (fitB p f) = true) /\ Below w8.heap.size w8 wr) (fun _ _ i _ => ls - (intOf i).toNat)
  case atStart => exact ⟨0, Nat.zero_le _, by rw [HF01.out false, Bool.or_false], by rw [HF01.out true, Bool.or_false], rfl, hide (by simp), Below.refl _ _⟩
  case round =>
   obtain ⟨b, hbk, rfl, rfl, rfl, HAB, hb⟩ := hrel
   obtain ⟨wb, rfl⟩ := zr wr
   have HDB9 := hide (HC8.out.trans (hb.mono HC8.out.size))
   have HE8 := hide hb
   obtain ⟨c0, c1, c2, c3, c4⟩ := HFK0.out wb HDB9.out
   have lwb := hb.size
   have l6 : h6 < wb.heap.size := by omega
   clear hb
   by_cases hltb : b < ls
   case neg =>
    obtain rfl : ls = b := by omega
    have hnl : ¬ ((ls : Int) < (ls : Int)) := by omega
    have HAFN2 := hide (HAFN.out HAB.out)
    go_wp2
    go_roundw
    case rel => exact ⟨n + 1, by omega, by rw [HN1f.out], by rw [HN1t.out], by go_num, HAFN2, HC.out.trans ((HUP.out wb HDB9.out).mono HC.out.size)⟩
    case measure => simp [intOf]; omega
   obtain ⟨l, hl⟩ : ∃ l, f.blocks[b]? = some l := ⟨_, List.getElem?_eq_getElem (by have := HLS.out; omega)⟩
   have hlm := List.mem_of_getElem? hl
   have HFT2 := hide (HFT1.out l hlm)
   have HUR2 := hide (HUR1.out l hlm)
   have HFW2 := hide (HFW1.out l hlm)
   have HM62 := hide (HM61.out l hlm)
   have HRT2 := hide (HRT.out l hlm)
   have HSR2 := hide (HSR.out l hlm)
   have HFSf := hide (HFS1.out b l hl false)
   have HFSt := hide (HFS1.out b l hl true)
   have HABN := hide (fun (h : ∀ x ∈ l.take l.length, fitB p f x = true) => (show ∀ l ∈ f.blocks.take (b + 1), l.all (fitB p f) = true from jgi HAB.out hl (by rw [List.take_length] at h; exact List.all_eq_true.2 h)))
   have HASK := hide (fun (st : Bool) (i : Nat) (x : InsV) (hx : l[i]? = some x) => (show jhd st f l (σ b) (i + 1) = (jhd st f l (σ b) i || (jas x).any (fun v => je0 st f v (thrW f (l.take i) (σ b)))) from jpd hx))
   have HASK0 := hide (fun (st : Bool) => (show jhd st f l (σ b) 0 = false from rfl))
   have HTHS := hide (fun (i : Nat) (x : InsV) (hx : l[i]? = some x) => (show thrW f (l.take (i + 1)) (σ b) = jb2 f x (thrW f (l.take i) (σ b)) from by rw [List.take_add_one, hx]; exact jdu f (l.take i) x (σ b)))
   have HTH0 := hide (show thrW f (l.take 0) (σ b) = σ b from by rw [List.take_zero]; rfl)
   have HG0 := hide (HSG.out b)
   obtain ⟨bb, ob, Al, cl, hAs, hbb, q0, hli⟩ := (HBL.out wb (HUP.out wb HDB9.out)).get hl
   subst hAs
   have lbB2 : B <= wb.heap.size := by have := HBB.out; omega
   have hbs9 : bb < wb.heap.size := by omega
   have HLI := hide (fun (W : World) (hW : Below wb.heap.size wb W) => hli.keep (S := (· < B)) (S' := (· < B)) (up hW lbB2) (fun _ h => h))
   have hm4 : l.length <= 9223372036854775807 := by obtain ⟨A, c, -, h1, h2⟩ := hli.open'; omega
   obtain ⟨ll, hll⟩ := zl l.length
   have HLL := hide hll
   rw [hll] at HLI hm4 q0 HFSf HFSt HABN
   have HD0 := hide (fun (W : World) (hW : Below wb.heap.size wb W) => (hW.cell (p := ⟨bb, ob + b, none⟩) hbs9).trans q0)
   clear hli hll hl hlm q0
   have rb0 : (0 : Int) <= (b : Int) := by omega
   have rb1 : (b : Int) < (ls : Int) := by omega
   obtain ⟨A1, m1, d1, z1, -, hs1⟩ := (HA18.out.below HE8.out).cell hltb
   obtain ⟨A2, m2, d2, z2, -, hs2⟩ := (HA28.out.below HE8.out).cell hltb
   have HS1 := hide hs1
   have HS2 := hide hs2
   have lg1 := (HA18.out.below HE8.out).lt
   have lg2 := (HA28.out.below HE8.out).lt
   have HRM := hide (MB.cell (show MB wb bm m from HMB.out.below HE8.out) (b := b) (by rw [HML.out]; exact hltb)).1
   have lbm := (show MB wb bm m from HMB.out.below HE8.out).lt
   clear hs1 hs2
   obtain ⟨TH, hTH⟩ : ∃ TH : Nat -> KSt, (fun i => thrW f (l.take i) (σ b)) = TH := ⟨_, rfl⟩
   have hTH2 : ∀ i, thrW f (l.take i) (σ b) = TH i := fun i => by rw [<- hTH]
   simp only [hTH2] at HTHS HTH0 HASK
   obtain ⟨AU, hAU⟩ : ∃ AU : Bool -> Nat -> Bool, (fun st i => jhd st f l (σ b) i) = AU := ⟨_, rfl⟩
   have hAU2 : ∀ st i, jhd st f l (σ b) i = AU st i := fun st i => by rw [<- hAU]
   simp only [hAU2] at HASK HASK0 HFSf HFSt
   clear hTH hTH2 hAU hAU2
   have HG0 := hide (show GoodK f (TH 0) from by rw [HTH0.out]; exact HG0.out)
   have HS1 := hide (show SetV wb (.slice A1 m1 d1) (TH 0).1 from by rw [HTH0.out]; exact HS1.out)
   have HS2 := hide (show SetV wb (.slice A2 m2 d2) (TH 0).2 from by rw [HTH0.out]; exact HS2.out)
   generalize metB m (b : Int) = rb at *
   have HUf := hide (show (pu || FN false (b + 1)) = ((pu || FN false b) || (rb && AU false ll)) from by rw [HFSf.out, Bool.or_assoc])
   have HUt := hide (show (ps || FN true (b + 1)) = ((ps || FN true b) || (rb && AU true ll)) from by rw [HFSt.out, Bool.or_assoc])
   clear HFSf HFSt
   generalize (pu || FN false b) = u0 at *
   generalize (ps || FN true b) = s0 at *
   go_wp2_with fail
   go_quiet (fail)
   obtain ⟨wd, hwd⟩ := zr (wb.drewN nq)
   have HDd := hide (show Below wb.heap.size wb wd from by rw [hwd]; exact ja0 (Below.refl _ _) nq)
   rw [<- hwd]
   clear hwd z1 z2 c0 c1 c2 c3 c4 l6
   have HS1 := hide (HS1.out.below HDd.out)
   have HS2 := hide (HS2.out.below HDd.out)
   go_wp2
   go_loopw [3, 4, 11, 12, 13] (fun a1 a2 a3 a4 i wr => ∃ (i' : Nat) (v1 v2 : Value), i' <= ll /\ a1 = .bool (u0 || (rb && AU false i')) /\ a2 = .bool (s0 || (rb && AU true i')) /\ v1 = a3 /\ v2 = a4 /\ i = .int .i64 i' /\ Hid (SetV wr v1 (TH i').1) /\ Hid (SetV wr v2 (TH i').2) /\ Hid (GoodK f (TH i')) /\ Hid (∀ x ∈ l.take i', fitB p f x = true) /\ Below wb.heap.size wb wr) (fun _ _ _ _ i _ => ll - (intOf i).toNat)
   case atStart => exact ⟨0, _, _, Nat.zero_le _, by rw [HASK0.out false, Bool.and_false, Bool.or_false], by rw [HASK0.out true, Bool.and_false, Bool.or_false], rfl, rfl, rfl, HS1, HS2, HG0, hide (by simp), HDd.out⟩
   case round =>
    obtain ⟨i, v1, v2, hik, rfl, rfl, rfl, rfl, rfl, HV1, HV2, HG, HFI, hb⟩ := hrel
    obtain ⟨wi, rfl⟩ := zr wr
    clear HS1 HS2 HG0 HDd
    have HE := hide hb
    have HDI := hide (HDB9.out.trans (hb.mono HDB9.out.size))
    have HWI := hide (HUP.out wi HDI.out)
    obtain ⟨c0, c1, c2, c3, c4⟩ := HFK0.out wi HDI.out
    have d0 := HD0.out wi hb
    have lwi := hb.size
    have l6 : h6 < wi.heap.size := by omega
    have lbb : bb < wi.heap.size := by omega
    clear hb
    by_cases hlti : i < ll
    case neg =>
     obtain rfl : ll = i := by omega
     have hnl : ¬ ((ll : Int) < (ll : Int)) := by omega
     have HABN2 := hide (HABN.out HFI.out)
     go_wp2
     go_roundw
     case rel => exact ⟨b + 1, by omega, by rw [HUf.out], by rw [HUt.out], by go_num, HABN2, HE8.out.trans (HE.out.mono HE8.out.size)⟩
     case measure => simp [intOf]; omega
    obtain ⟨x, hx⟩ : ∃ x, l[i]? = some x := ⟨_, List.getElem?_eq_getElem (by have := HLL.out; omega)⟩
    have hxm := List.mem_of_getElem? hx
    obtain ⟨bx, ox, Ay, cy, hAl, hbx, ⟨z0, z1, z2, z3, z4, z5, z6⟩, hxi⟩ := (HLI.out wi HE.out).get hx
    subst hAl
    have lbx : bx < wi.heap.size := by omega
    have lbBi : B <= wi.heap.size := by omega
    have HXI := hide (fun (W : World) (hW : Below wi.heap.size wi W) => hxi.keep (w := wi) (S := (· < B)) (S' := (· < B)) (up hW lbBi) (fun _ h => h))
    have HWU := hide (fun (W : World) (hW : Below wi.heap.size wi W) => HWI.out.trans (hW.mono HWI.out.size))
    have HWW := hide (fun (W : World) (hW : Below wi.heap.size wi W) => HW.out.trans ((HWU.out W hW).mono HW.out.size))
    have HFX2 := hide (fun (W : World) (hW : Below wi.heap.size wi W) => HFT2.out x hxm (.slice Ay x.args.length cy) W (HWW.out W hW) (HXI.out W hW))
    have HUX := hide (fun (W : World) (hW : Below wi.heap.size wi W) => jjm x (.slice Ay x.args.length cy) W B (by have := hW.size; omega) (HXI.out W hW) (HFW2.out x hxm))
    have HSX := hide (fun (W : World) (hW : Below wi.heap.size wi W) (g1 : SetV W v1 (TH i).1) (g2 : SetV W v2 (TH i).2) => HRT2.out x hxm (.slice Ay x.args.length cy) W (HWU.out W hW) (HXI.out W hW) v1 v2 (TH i) HG.out g1 g2)
    have HSN := hide (show GoodK f (TH (i + 1)) from by rw [HTHS.out i x hx]; exact HSR2.out x hxm (TH i) HG.out)
    have HTE := hide (HTHS.out i x hx)
    have HAUf := hide (HASK.out false i x hx)
    have HAUt := hide (HASK.out true i x hx)
    have HURx := hide (HUR2.out x hxm)
    have HM6x := hide (HM62.out x hxm)
    have HFIN := hide (fun (h : fitB p f x = true) => (show ∀ x ∈ l.take (i + 1), fitB p f x = true from jgi HFI.out hx h))
    rw [<- HTE.out] at HSX
    have hxm0 := hxm
    clear hxi hx hxm HXI HTE
    obtain ⟨fb, hfb⟩ := zl (fitB p f x)
    rw [hfb] at HFX2 HM6x HFIN
    clear hfb
    have hulen : (jas x).length <= 17592186044900 := by
     have h0 := HFW2.out x hxm0
     unfold jas
     simp only [List.length_append]
     have h1 : (if ja9 x.op 65 = true then [x.a] else []).length <= 1 := by split <;> simp
     have h2 : (if ja9 x.op 66 = true then [x.b] else []).length <= 1 := by split <;> simp
     have h3 : (if ja9 x.op 76 = true then x.args else []).length <= 17592186044000 := by split <;> simp_all
     omega
    obtain ⟨us, hus⟩ := zl (jas x)
    rw [hus] at HUX HAUf HAUt HURx hulen
    have HULEN := hide hulen
    clear hulen
    clear hus hxm0
    generalize x.args.length = ly, x.op = yo, x.d = yd, x.a = ya, x.b = yb, x.n = yn, x.m = ym at *
    have ri0 : (0 : Int) <= (i : Int) := by omega
    have ri1 : (i : Int) < (ll : Int) := by omega
    go_upto_region 18 with (fail)
    obtain ⟨w9, hw9⟩ := zr (wi.alloc (.cells #[.int .i64 yo, .int .i64 yd, .int .i64 ya, .int .i64 yb, .int .i64 yn, .int .i64 ym, .slice Ay ly cy] 57))
    obtain ⟨h9, hh9⟩ := zl wi.heap.size
    have HYX0 := zx1 hw9 hh9
    have HB9 := zb1 hw9
    have w9s := HB9.out.size
    have w9z := zs1 hw9 hh9
    have HYK0 := zk7 HYX0
    have lHYX0 := HYX0.out.lt
    have h9g : wi.heap.size <= h9 := by omega
    rw [<- hw9, hh9]
    clear hw9 hh9
    clear z0 z1 z2 z3 z4 z5 z6 d0 c0 c1 c2 c3 c4
    have HDI9 := hide (HDI.out.trans (HB9.out.mono HDI.out.size))
    have HCA := hide (fun (W : World) (hW : Below w9.heap.size w9 W) => HC.out.trans ((HUP.out W (HDI9.out.trans (hW.mono HDI9.out.size))).mono HC.out.size))
    have HP9 := hide (fun (W : World) (hW : Below w9.heap.size w9 W) => HK0.out W (HC2.out.trans ((HCA.out W hW).mono HC2.out.size)))
    have HF9 := hide (fun (W : World) (hW : Below w9.heap.size w9 W) => HFK0.out W (HDI9.out.trans (hW.mono HDI9.out.size)))
    have HU9 := hide (fun (W : World) (hW : Below w9.heap.size w9 W) => HB9.out.trans (hW.mono HB9.out.size))
    have p9 := HP9.out w9 (Below.refl _ _)
    have lw9 := HB9.out.size
    have lp9 : h5 < w9.heap.size := by omega
    obtain ⟨y0, y1, y2, y3, y4, y5, y6⟩ := HYK0.out w9 (Below.refl _ _)
    cases fb
    case false =>
     go_wp2_with (go_at_call 30; (with_reducible refine (HFX2.out w9 (HU9.out w9 (Below.refl _ _))).mono ?_); rintro e wk ⟨rfl, hbk⟩; have HBk := hide (HWW.out wk (HU9.out wk hbk)); clear hbk)
     go_ret
     exact ⟨6, rfl, HM6x.out (by simp), HBk.out⟩
    go_upto_region 21 with (first
     | (go_at_call 31; (with_reducible refine (HUX.out wk (HU9.out wk HCk.out)).mono ?_); rintro e wu ⟨vu, rfl, hou, hbu⟩; have hcu := HCk.out.trans (hbu.mono HCk.out.size); have HCu := hide hcu; have HOU := hide hou; clear hbu hou hcu)
     | (go_at_call 30; (with_reducible refine (HFX2.out w9 (HU9.out w9 (Below.refl _ _))).mono ?_); rintro e wk ⟨rfl, hbk⟩; have HCk := hide hbk; obtain ⟨r0, r1, r2, r3, r4, r5, r6⟩ := HYK0.out wk hbk; have l9k : h9 < wk.heap.size := (by have := hbk.size; omega); clear hbk))
    obtain ⟨Au, cu, hvu, -, -, hsu⟩ := HOU.out.sl
    subst hvu
    obtain ⟨lu, hlu⟩ := zl us.length
    have HLU := hide hlu
    rw [hlu]
    have HSU := hide hsu
    have HVu1 := hide (HV1.out.below (HU9.out wu HCu.out))
    have HVu2 := hide (HV2.out.below (HU9.out wu HCu.out))
    have HBDu := hide (HDI9.out.trans (HCu.out.mono HDI9.out.size))
    have HRMu := hide (((HE.out.trans ((HU9.out wu HCu.out).mono HE.out.size)).cell (p := ⟨bm, b, none⟩) lbm).trans HRM.out)
    have lwu := HCu.out.size
    have lbmu : bm < wu.heap.size := by omega
    have hlum := HULEN.out
    rw [hlu] at hlum
    have HFIN2 := hide (HFIN.out (by simp))
    clear hsu hlu HOU y0 y1 y2 y3 y4 y5 y6 r0 r1 r2 r3 r4 r5 r6 p9 HUX HFX2 HM6x HFIN
    obtain ⟨EU, hEU⟩ : ∃ EU : Bool -> Nat -> Bool, (fun st k => (us.take k).any fun v => je0 st f v (TH i)) = EU := ⟨_, rfl⟩
    have HES := hide (fun (st : Bool) (k : Nat) (v : Int) (hv : us[k]? = some v) => (show EU st (k + 1) = (EU st k || je0 st f v (TH i)) from by rw [<- hEU]; exact jjf hv))
    have HE0 := hide (fun (st : Bool) => (show EU st 0 = false from by rw [<- hEU]; rfl))
    have HEL := hide (fun (st : Bool) => (show us.any (fun v => je0 st f v (TH i)) = EU st lu from by rw [<- hEU, <- HLU.out]; show _ = (us.take us.length).any _; rw [List.take_length]))
    have HXf := hide (fun (k : Nat) (hf : rb = false -> k = 0) (ht : rb = true -> k = lu) => (show ((u0 || (rb && AU false i)) || EU false k) = (u0 || (rb && AU false (i + 1))) from jn5 (HE0.out false) (by rw [HAUf.out, HEL.out]) hf ht))
    have HXt := hide (fun (k : Nat) (hf : rb = false -> k = 0) (ht : rb = true -> k = lu) => (show ((s0 || (rb && AU true i)) || EU true k) = (s0 || (rb && AU true (i + 1))) from jn5 (HE0.out true) (by rw [HAUt.out, HEL.out]) hf ht))
    clear hEU HEL HAUf HAUt
    obtain ⟨u1, hu1⟩ := zl (u0 || (rb && AU false i))
    obtain ⟨s1, hs1⟩ := zl (s0 || (rb && AU true i))
    rw [hu1] at HXf
    rw [hs1] at HXt
    rw [hu1, hs1]
    clear hu1 hs1
    go_wp2
    go_loopw [3, 4, 16] (fun a1 a2 j wr => ∃ k : Nat, k <= lu /\ (rb = false -> k = 0) /\ a1 = .bool (u1 || EU false k) /\ a2 = .bool (s1 || EU true k) /\ j = .int .i64 k /\ Below wu.heap.size wu wr) (fun _ _ j _ => lu - (intOf j).toNat)
    case atStart => exact ⟨0, Nat.zero_le _, fun _ => rfl, by rw [HE0.out, Bool.or_false], by rw [HE0.out, Bool.or_false], rfl, Below.refl _ _⟩
    case round =>
     obtain ⟨k, hk, hkr, rfl, rfl, rfl, hb⟩ := hrel
     obtain ⟨wl, rfl⟩ := zr wr
     have HL := hide hb
     have HCL := hide (HCu.out.trans (hb.mono HCu.out.size))
     have rm := (hb.cell (p := ⟨bm, b, none⟩) lbmu).trans HRMu.out
     have lwl := hb.size
     have lbml : bm < wl.heap.size := by omega
     have l9l : h9 < wl.heap.size := by omega
     have l6l : h6 < wl.heap.size := by omega
     obtain ⟨c0, c1, c2, c3, c4⟩ := HF9.out wl HCL.out
     obtain ⟨y0, y1, y2, y3, y4, y5, y6⟩ := HYK0.out wl HCL.out
     clear hb
     by_cases hltk : k < lu
     case neg =>
      obtain rfl : lu = k := by omega
      have hnl : ¬ ((lu : Int) < (lu : Int)) := by omega
      have hx1 := HXf.out lu (fun h => hkr h) (fun _ => rfl)
      have hx2 := HXt.out lu (fun h => hkr h) (fun _ => rfl)
      have HX1 := hide hx1
      have HX2 := hide hx2
      clear hx1 hx2
      go_wp2_with (go_at_call 33; (with_reducible refine (HSX.out wl (HU9.out wl HCL.out) (HVu1.out.below HL.out) (HVu2.out.below HL.out)).mono ?_); rintro e wz ⟨r1, r2, rfl, hs1, hs2, hbz⟩; have HZ1 := hide hs1; have HZ2 := hide hs2; have HBZ := hide (HE.out.trans ((HU9.out wz (HCL.out.trans (hbz.mono HCL.out.size))).mono HE.out.size)); clear hs1 hs2 hbz)
      go_roundw
      case rel => exact ⟨i + 1, r1, r2, by omega, by rw [HX1.out], by rw [HX2.out], rfl, rfl, by go_num, HZ1, HZ2, HSN, HFIN2, HBZ.out⟩
      case measure => simp [intOf]; omega
     cases rb
     case false =>
      have hk0 : k = 0 := by simpa using hkr
      clear hkr
      have hx1 := HXf.out k (fun _ => hk0) (fun h => by cases h)
      have hx2 := HXt.out k (fun _ => hk0) (fun h => by cases h)
      have HX1 := hide hx1
      have HX2 := hide hx2
      clear hx1 hx2
      clear hk0
      go_wp2_with (go_at_call 33; (with_reducible refine (HSX.out wl (HU9.out wl HCL.out) (HVu1.out.below HL.out) (HVu2.out.below HL.out)).mono ?_); rintro e wz ⟨r1, r2, rfl, hs1, hs2, hbz⟩; have HZ1 := hide hs1; have HZ2 := hide hs2; have HBZ := hide (HE.out.trans ((HU9.out wz (HCL.out.trans (hbz.mono HCL.out.size))).mono HE.out.size)); clear hs1 hs2 hbz)
      go_roundw
      case rel => exact ⟨i + 1, r1, r2, by omega, by rw [HX1.out], by rw [HX2.out], rfl, rfl, by go_num, HZ1, HZ2, HSN, HFIN2, HBZ.out⟩
      case measure => simp [intOf]; omega
     clear hkr
     obtain ⟨v, hv⟩ : ∃ v, us[k]? = some v := ⟨_, List.getElem?_eq_getElem (by have := HLU.out; omega)⟩
     obtain ⟨mv, y, hmv0, hmv, hy⟩ := HKQ.out v (HURx.out v (List.mem_of_getElem? hv))
     subst hmv0
     obtain ⟨bu, ou, hAu, lbu, hcu⟩ := (HSU.out.below HL.out) (by have := HLU.out; omega)
     subst hAu
     have qv : wl.cell? ⟨bu, ou + k, none⟩ = some (.int .i64 (mv : Int)) := (hcu k (by have := HLU.out; omega)).trans (by rw [List.getD_eq_getElem?_getD, hv]; rfl)
     have lbul : bu < wl.heap.size := by omega
     obtain ⟨bk, ok, hAk, hbk4, ek, -⟩ := (HKL.out wl (HWU.out wl (HU9.out wl HCL.out))).get hy
     subst hAk
     have lbk : bk < wl.heap.size := by omega
     have hf1 : EU false (k + 1) = (EU false k || !hasB (TH i).1 (mv : Int)) := by rw [HES.out false k _ hv]; rfl
     have hf2 : EU true (k + 1) = (EU true k || (y == 2 && !hasB (TH i).2 (mv : Int))) := by
      rw [HES.out true k _ hv]
      show (_ || (isK f (mv : Int) 2 && _)) = _
      rw [jd1 hy]
     have hmr : i64R (mv : Int) := by constructor <;> omega
     have HA9 := hide (fun (W : World) (hW : Below wu.heap.size wu W) => rhasV (HVu1.out.below hW) (by have := HG.out.l1; omega) HG.out.w1 (mv : Int) hmr)
     have HB9 := hide (fun (W : World) (hW : Below wu.heap.size wu W) => rhasV (HVu2.out.below hW) (by have := HG.out.l2; omega) HG.out.w2 (mv : Int) hmr)
     have HCA1 := hide (show (u1 || EU false (k + 1)) = ((u1 || EU false k) || !hasB (TH i).1 (mv : Int)) from by rw [hf1, Bool.or_assoc])
     have HCB1 := hide (show (s1 || EU true (k + 1)) = ((s1 || EU true k) || (y == 2 && !hasB (TH i).2 (mv : Int))) from by rw [hf2, Bool.or_assoc])
     clear hf1 hf2 hcu hv hy hmr
     obtain ⟨b1, hb1⟩ := zl (hasB (TH i).1 (mv : Int))
     obtain ⟨b2, hb2⟩ := zl (hasB (TH i).2 (mv : Int))
     rw [hb1] at HA9 HCA1
     rw [hb2] at HB9 HCB1
     obtain ⟨f1, hf1⟩ := zl (u1 || EU false k)
     obtain ⟨f2, hf2⟩ := zl (s1 || EU true k)
     rw [hf1] at HCA1 ⊢
     rw [hf2] at HCB1 ⊢
     clear hb1 hb2 hf1 hf2
     have rk0 : (0 : Int) <= (k : Int) := by omega
     have rk1 : (k : Int) < (lu : Int) := by omega
     have rv0 : (0 : Int) <= (mv : Int) := by omega
     have rv1 : (mv : Int) < (lk : Int) := by omega
     go_upto_region 24 with (fail)
     go_cut [3] from 93 to 102 (fun a wx => a = .bool (f1 || !b1) /\ wx = wl)
     case first =>
      cases f1
      case true =>
       go_wp2_with fail
       go_meet
       exact ⟨rfl, rfl⟩
      go_wp2_with (go_at_call 32; (with_reducible refine (HA9.out wl HL.out).mono ?_); rintro e w' ⟨rfl, rfl⟩)
      go_meet
      exact ⟨rfl, rfl⟩
     case rest =>
      obtain ⟨rfl, rfl⟩ := hcut
      obtain ⟨wl, rfl⟩ := zr wc
      go_upto_region 25 with (fail)
      cases f2
      case true =>
       go_quiet (fail)
       go_wp2
       go_roundw
       case rel => exact ⟨k + 1, by omega, (fun h => by cases h), by rw [HCA1.out], (by first | (rw [HCB1.out]; done) | (rw [HCB1.out]; rfl) | (rw [HCB1.out]; simp)), by go_num, ja0 HL.out nq⟩
       case measure => simp [intOf]; omega
      by_cases hy2 : y = 2
      case pos =>
       subst hy2
       go_quiet ((go_at_call 32; exact Calls.quiet_of_same ((HB9.out _ (ja0 HL.out _)).mono fun _ _ h => ⟨h.1, h.2.symm⟩)))
       go_wp2
       go_roundw
       case rel => exact ⟨k + 1, by omega, (fun h => by cases h), by rw [HCA1.out], (by first | (rw [HCB1.out]; done) | (rw [HCB1.out]; rfl) | (rw [HCB1.out]; simp)), by go_num, ja0 HL.out nq⟩
       case measure => simp [intOf]; omega
      have hyb : (y == 2) = false := by simp [hy2]
      rw [hyb] at HCB1
      go_quiet (fail)
      go_wp2
      go_roundw
      case rel => exact ⟨k + 1, by omega, (fun h => by cases h), by rw [HCA1.out], (by first | (rw [HCB1.out]; done) | (rw [HCB1.out]; rfl) | (rw [HCB1.out]; simp)), by go_num, ja0 HL.out nq⟩
      case measure => simp [intOf]; omega
theorem ChkR.one {p : List FunV} {m n : Nat} (h1 : ChkR p m) (h2 : ChkR p n) : m = n := by
 unfold ChkR at h1 h2
 rcases h1 with ⟨a, rfl⟩ | ⟨a, b, rfl⟩ | ⟨a, b, c, rfl⟩ | ⟨a, b, c, d, rfl⟩ | ⟨a, b, c, d, rfl⟩ <;>
  rcases h2 with ⟨a', rfl⟩ | ⟨a', b', rfl⟩ | ⟨a', b', c', rfl⟩ | ⟨a', b', c', d', rfl⟩ | ⟨a', b', c', d', rfl⟩ <;> simp_all
end Go.Proofs.YthbnbaikdcfbmaaGreatDoor
