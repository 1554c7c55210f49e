/- Layer 8, the program: contracts of behind, through, meet, same, arguments, Contains. Condition: the table of parts reads as listed. -/
import Derived.Test.YthbnbaikdcfbmaaGreatDoorPmKE
set_option linter.unusedSimpArgs false
set_option linter.unusedVariables false
set_option maxHeartbeats 4000000
set_option maxRecDepth 100000
namespace Go.Proofs.YthbnbaikdcfbmaaGreatDoor
open Go.RowKit
theorem jrc (vk vb vs : Value) (f : FunV) (x : InsV) (va : Value) (w : World) (B : Nat) (hB : B <= w.heap.size) (hi : FunI w (· < B) vk vb vs f) (hx : InsI w (· < B) va x) (hT : TabP w) (v1 v2 : Value) (s : KSt) (hs : GoodK f s) (h1 : SetV w v1 s.1) (h2 : SetV w v2 s.2) (hk : f.kinds.length <= 48) (hbl : f.base.length = f.kinds.length) (hd : ja9 x.op 68 = true -> 0 <= x.d /\ x.d < f.kinds.length) :
  Calls Tryz.prog 106 #[.agg #[vk, vb, .int .i64 f.params, .int .i64 f.result, vs], .agg #[.int .i64 x.op, .int .i64 x.d, .int .i64 x.a, .int .i64 x.b, .int .i64 x.n, .int .i64 x.m, va], v1, v2] w fun e w' => ∃ r1 r2, e = .returned (.tuple #[r1, r2]) /\ WN w w' r1 (jb2 f x s).1 /\ WN w w' r2 (jb2 f x s).2 /\ Below w.heap.size w w' := by
 cases h68 : ja9 x.op 68 with
 | false => exact kstep_no vk vb vs f x va w B hB hi hx hT v1 v2 s hs h1 h2 h68
 | true =>
  obtain ⟨d0, d1⟩ := hd h68
  exact jrb vk vb vs f x va w B hB hi hx hT v1 v2 s hs h1 h2 h68 x.d.toNat (by omega) (by omega) (by omega) (by omega)
def SetM (w : World) (M : Nat -> Prop) (v : Value) (s : List Nat) : Prop := ∃ A c, v = .slice A s.length c /\ s.length <= c /\ c <= 9223372036854775807 /\ Sl w w.heap.size .u64 A (nI s) /\ ∀ b o, A = some ⟨b, o, none⟩ -> 0 < s.length -> ¬ M b
theorem SetM.v {w : World} {M : Nat -> Prop} {v : Value} {s : List Nat} (h : SetM w M v s) : SetV w v s := let ⟨A, c, h1, h2, h3, h4, _⟩ := h; ⟨A, c, h1, h2, h3, h4⟩
theorem SetM.below {w w1 : World} {M : Nat -> Prop} {v : Value} {s : List Nat} (h : SetM w M v s) (hb : Below w.heap.size w w1) : SetM w1 M v s := by
 obtain ⟨A, c, h1, h2, h3, h4, h5⟩ := h
 exact ⟨A, c, h1, h2, h3, (h4.below hb).more hb.size, h5⟩
theorem WN.setM {W w : World} {v : Value} {s : List Nat} (h : WN W w v s) {M : Nat -> Prop} (hM : ∀ b, M b -> b < W.heap.size) : SetM w M v s := by
 obtain ⟨A, c, h1, h2, h3, h4, h5⟩ := h
 exact ⟨A, c, h1, h2, h3, h4, fun b o e _ hm => by have := h5 b o e; have := hM b hm; omega⟩
theorem SetM.nil (w : World) (M : Nat -> Prop) : SetM w M (.slice none 0 0) [] := ⟨none, 0, rfl, Nat.le_refl _, by omega, Sl.nil _ _ _ _, fun _ _ _ h => absurd h (by simp)⟩
theorem SetM.keep {w w1 : World} {M M' : Nat -> Prop} {v : Value} {s : List Nat} (h : SetM w M v s) (hz : w.heap.size <= w1.heap.size) (hk : ∀ b, b < w.heap.size -> ¬ M b -> w1.heap[b]? = w.heap[b]?) (hM : ∀ b, b < w.heap.size -> M' b -> M b) : SetM w1 M' v s := by
 obtain ⟨A, c, h1, h2, h3, h4, h5⟩ := h
 refine ⟨A, c, h1, h2, h3, fun hp => ?_, fun b o e hl hm => ?_⟩
 ·obtain ⟨b, o, e, hb, hc⟩ := h4 hp
  exact ⟨b, o, e, by omega, fun j hj => (World.cell?_of_block (a := ⟨b, o + j, none⟩) (hk b hb (h5 b o e (by rwa [jab] at hp)))).trans (hc j hj)⟩
 ·obtain ⟨b', o', e', hb, hc⟩ := h4 (by rw [jab]; exact hl)
  rw [e] at e'
  cases e'
  exact h5 b o e hl (hM b hb hm)
theorem WN.but {W w w1 : World} {v : Value} {s : List Nat} {g : Nat} (h : WN W w v s) (hb : But g w w1) (hg : g < W.heap.size) : WN W w1 v s := by
 obtain ⟨A, c, h1, h2, h3, h4, h5⟩ := h
 refine ⟨A, c, h1, h2, h3, fun hp => ?_, h5⟩
 obtain ⟨b, o, e, hbl, hc⟩ := h4 hp
 exact ⟨b, o, e, by have := hb.size; omega, fun j hj => (World.cell?_of_block (a := ⟨b, o + j, none⟩) (hb.block b hbl (by have := h5 b o e; omega))).trans (hc j hj)⟩
theorem jep (vk vb vs : Value) (f : FunV) (x : InsV) (va : Value) (w : World) (B : Nat) (hB : B <= w.heap.size) (hi : FunI w (· < B) vk vb vs f) (hx : InsI w (· < B) va x) (hT : TabP w) (v1 v2 : Value) (s : KSt) (hs : GoodK f s) (h1 : SetV w v1 s.1) (h2 : SetV w v2 s.2) (hk : f.kinds.length <= 48) (hbl : f.base.length = f.kinds.length) (hd : ja9 x.op 68 = true -> 0 <= x.d /\ x.d < f.kinds.length) :
  Calls Tryz.prog 84 #[.agg #[v1, v2], .agg #[vk, vb, .int .i64 f.params, .int .i64 f.result, vs], .agg #[.int .i64 x.op, .int .i64 x.d, .int .i64 x.a, .int .i64 x.b, .int .i64 x.n, .int .i64 x.m, va]] w fun e w' => ∃ r1 r2, e = .returned (.agg #[r1, r2]) /\ WN w w' r1 (jb2 f x s).1 /\ WN w w' r2 (jb2 f x s).2 /\ Below w.heap.size w w' := by
 have HST := hide (fun (W : World) (hW : Below w.heap.size w W) => jrc vk vb vs f x va W B (by have := hW.size; omega) (hi.keep (up hW hB) (fun _ h => h)) (hx.keep (up hW hB) (fun _ h => h)) (hT.below hW hT.1) v1 v2 s hs (h1.below hW) (h2.below hW) hk hbl hd)
 obtain ⟨Ak, ck, rfl, hck, hmk⟩ := hi.1.open'
 obtain ⟨Ab, cb, rfl, hcb, hmb⟩ := hi.2.1.open'
 obtain ⟨As, cs, rfl, hcs, hms⟩ := hi.2.2.1.open'
 obtain ⟨Ax, cx, rfl, hcx, hmx⟩ := hx.1.open'
 obtain ⟨A1, d1, rfl, -, -, -⟩ := h1
 obtain ⟨A2, d2, rfl, -, -, -⟩ := h2
 generalize jb2 f x s = r at *
 generalize s.1.length = n1, s.2.length = n2 at *
 clear hi hx hT hs hk hbl hd
 generalize x.args.length = lx, x.op = xo, x.d = xd, x.a = xa, x.b = xb, x.n = xn, x.m = xm at *
 generalize f.kinds.length = lk, f.base.length = lb, f.blocks.length = ls, f.params = fp, f.result = fr at *
 go_enter Tryz.func84, Tryz.ntmps84
 go_upto_region 1 with (fail)
 obtain ⟨w1, hw1⟩ := zr ((((w.alloc (.cells #[.slice A1 n1 d1, .slice A2 n2 d2] 119)).alloc (.cells #[.slice Ak lk ck, .slice Ab lb cb, .int .i64 fp, .int .i64 fr, .slice As ls cs] 52)).alloc (.cells #[.int .i64 xo, .int .i64 xd, .int .i64 xa, .int .i64 xb, .int .i64 xn, .int .i64 xm, .slice Ax lx cx] 57)).alloc (.cells #[.slice none 0 0, .slice none 0 0] 119))
 obtain ⟨h5, hh5⟩ := zl w.heap.size
 have HX0 := hide (show Box w1 (h5) #[.slice A1 n1 d1, .slice A2 n2 d2] 119 by rw [hw1, <- hh5]; have t := Box.new w #[.slice A1 n1 d1, .slice A2 n2 d2] 119; (try simp only [World.size_alloc] at t); exact (((t.alloc _).alloc _).alloc _))
 have HX1 := hide (show Box w1 (h5 + 1) #[.slice Ak lk ck, .slice Ab lb cb, .int .i64 fp, .int .i64 fr, .slice As ls cs] 52 by rw [hw1, <- hh5]; have t := Box.new (w.alloc (.cells #[.slice A1 n1 d1, .slice A2 n2 d2] 119)) #[.slice Ak lk ck, .slice Ab lb cb, .int .i64 fp, .int .i64 fr, .slice As ls cs] 52; (try simp only [World.size_alloc] at t); exact ((t.alloc _).alloc _))
 have HX2 := hide (show Box w1 (h5 + 1 + 1) #[.int .i64 xo, .int .i64 xd, .int .i64 xa, .int .i64 xb, .int .i64 xn, .int .i64 xm, .slice Ax lx cx] 57 by rw [hw1, <- hh5]; have t := Box.new ((w.alloc (.cells #[.slice A1 n1 d1, .slice A2 n2 d2] 119)).alloc (.cells #[.slice Ak lk ck, .slice Ab lb cb, .int .i64 fp, .int .i64 fr, .slice As ls cs] 52)) #[.int .i64 xo, .int .i64 xd, .int .i64 xa, .int .i64 xb, .int .i64 xn, .int .i64 xm, .slice Ax lx cx] 57; (try simp only [World.size_alloc] at t); exact (t.alloc _))
 have HX3 := hide (show Box w1 (h5 + 1 + 1 + 1) #[.slice none 0 0, .slice none 0 0] 119 by rw [hw1, <- hh5]; have t := Box.new (((w.alloc (.cells #[.slice A1 n1 d1, .slice A2 n2 d2] 119)).alloc (.cells #[.slice Ak lk ck, .slice Ab lb cb, .int .i64 fp, .int .i64 fr, .slice As ls cs] 52)).alloc (.cells #[.int .i64 xo, .int .i64 xd, .int .i64 xa, .int .i64 xb, .int .i64 xn, .int .i64 xm, .slice Ax lx cx] 57)) #[.slice none 0 0, .slice none 0 0] 119; (try simp only [World.size_alloc] at t); exact t)
 have HB1 := zb4 hw1
 have w1s := HB1.out.size
 have w1z := hide (show w1.heap.size = h5 + 1 + 1 + 1 + 1 by rw [hw1, <- hh5]; simp only [World.size_alloc])
 have HK0 := zk2 HX0
 have lHX0 := HX0.out.lt
 have HK1 := zk5 HX1
 have lHX1 := HX1.out.lt
 have HK2 := zk7 HX2
 have lHX2 := HX2.out.lt
 have HK3 := zk2 HX3
 have lHX3 := HX3.out.lt
 have h5g : w.heap.size <= h5 := by omega
 rw [<- hw1, hh5]
 clear hw1 hh5
 obtain ⟨s0, s1⟩ := HK0.out w1 (Below.refl _ _)
 obtain ⟨c0, c1, c2, c3, c4⟩ := HK1.out w1 (Below.refl _ _)
 obtain ⟨x0, x1, x2, x3, x4, x5, x6⟩ := HK2.out w1 (Below.refl _ _)
 go_upto_region 2 with (go_at_call 106; (with_reducible refine (HST.out w1 HB1.out).mono ?_); rintro e w2 ⟨r1, r2, rfl, hn1, hn2, hb2⟩; have HB2 := hide hb2; have HN1 := hide hn1; have HN2 := hide hn2; obtain ⟨B1, e1, hq1, -, -, -, -⟩ := hn1; obtain ⟨B2, e2, hq2, -, -, -, -⟩ := hn2; subst hq1; subst hq2; clear hb2)
 have hx3w2 := HX3.out.below HB2.out
 obtain ⟨k0, f0⟩ := hx3w2.cell 0 (v := .slice none 0 0) rfl
 obtain ⟨k1, f1⟩ := hx3w2.cell 1 (v := .slice none 0 0) rfl
 have hz2 := HB2.out.size
 have HX4 := hide ((hx3w2.set 0 (.slice B1 r.1.length e1)).set 1 (.slice B2 r.2.length e2))
 clear s0 s1 c0 c1 c2 c3 c4 x0 x1 x2 x3 x4 x5 x6 hx3w2
 generalize r.1.length = m1, r.2.length = m2 at *
 go_wp2
 obtain ⟨w3, hw3⟩ := zr ((w2.setCell ⟨h5 + 1 + 1 + 1, 0, none⟩ (.slice B1 m1 e1)).setCell ⟨h5 + 1 + 1 + 1, 1, none⟩ (.slice B2 m2 e2))
 rw [<- hw3] at HX4 ⊢
 have q0 := (HX4.out.cell 0 (v := .slice B1 m1 e1) rfl).1
 have q1 := (HX4.out.cell 1 (v := .slice B2 m2 e2) rfl).1
 have HBG := hide (show But (h5 + 1 + 1 + 1) w2 w3 by rw [hw3]; exact ((But.refl _ _).set).set)
 clear hw3
 have hzz := w1z.out
 have hlow : w.heap.size <= w1.heap.size := HB1.out.size
 refine bodyPost_ret (v := .agg #[.slice B1 m1 e1, .slice B2 m2 e2]) (by simp [results, Tryz.results84, go_sem, q0, q1]) rfl ⟨_, _, rfl, (HN1.out.but HBG.out (by omega)).lower hlow, (HN2.out.but HBG.out (by omega)).lower hlow, HBG.out.below (HB1.out.trans (HB2.out.mono hlow)) (by omega) (by omega)⟩
theorem jks (vk vb vs : Value) (f : FunV) (l : List InsV) (vl : Value) (w : World) (B : Nat) (hB : B <= w.heap.size) (hi : FunI w (· < B) vk vb vs f) (hl : InssV w (· < B) vl l) (hT : TabP w) (M : Nat -> Prop) (hM : ∀ b, M b -> b < w.heap.size) (v1 v2 : Value) (s : KSt) (hs : GoodK f s) (h1 : SetM w M v1 s.1) (h2 : SetM w M v2 s.2) (hk : f.kinds.length <= 48) (hbl : f.base.length = f.kinds.length) (hd : jq3 f l) :
  Calls Tryz.prog 101 #[.agg #[v1, v2], .agg #[vk, vb, .int .i64 f.params, .int .i64 f.result, vs], vl] w fun e w' => ∃ r1 r2, e = .returned (.agg #[r1, r2]) /\ SetM w' M r1 (thrW f l s).1 /\ SetM w' M r2 (thrW f l s).2 /\ Below w.heap.size w w' := by
 have HGD := hide (fun k => (jev hk (l.take k) s (fun x hx => hd x (List.mem_of_mem_take hx)) hs).1)
 have HBE := hide (fun (x : InsV) (va : Value) (hx' : x ∈ l) (W : World) (hW : Below w.heap.size w W) (hxi : InsI W (· < B) va x) (u1 u2 : Value) (q : KSt) (hq : GoodK f q) (g1 : SetV W u1 q.1) (g2 : SetV W u2 q.2) => jep vk vb vs f x va W B (by have := hW.size; omega) (hi.keep (up hW hB) (fun _ h => h)) hxi (hT.below hW hT.1) u1 u2 q hq g1 g2 hk hbl (hd x hx'))
 have HLK := hide (fun (W : World) (hW : Below w.heap.size w W) => hl.keep (up hW hB) (fun _ h => h))
 obtain ⟨Ak, ck, rfl, hck, hmk⟩ := hi.1.open'
 obtain ⟨Ab, cb, rfl, hcb, hmb⟩ := hi.2.1.open'
 obtain ⟨As, cs, rfl, hcs, hms⟩ := hi.2.2.1.open'
 obtain ⟨Al, cl, rfl, hcl, hml⟩ := hl.open'
 obtain ⟨A1, d1, rfl, p1, p2, p3, p4⟩ := h1
 obtain ⟨A2, d2, rfl, p5, p6, p7, p8⟩ := h2
 have HV1 := hide (show SetM w M (.slice A1 s.1.length d1) s.1 from ⟨A1, d1, rfl, p1, p2, p3, p4⟩)
 have HV2 := hide (show SetM w M (.slice A2 s.2.length d2) s.2 from ⟨A2, d2, rfl, p5, p6, p7, p8⟩)
 obtain ⟨tk, htk⟩ : ∃ tk : Nat -> KSt, (fun k => thrW f (l.take k) s) = tk := ⟨_, rfl⟩
 have htk' : ∀ k, thrW f (l.take k) s = tk k := fun k => by rw [<- htk]
 have HST := hide (fun k x (hx' : l[k]? = some x) => (show jb2 f x (tk k) = tk (k + 1) by rw [<- htk', <- htk', List.take_add_one, hx', Option.toList_some, jdu]))
 simp only [htk'] at HGD
 have HT0 := hide (show tk 0 = s by rw [<- htk']; rfl)
 obtain ⟨n, hn⟩ := zl l.length
 have HTE := hide (show thrW f l s = tk n by rw [<- htk', <- hn, List.take_length])
 have HN := hide hn
 rw [hn] at HLK hcl ⊢
 clear hi hl hT hs hk hbl hd p1 p2 p3 p4 p5 p6 p7 p8 hn htk' htk
 have HMM := hide hM
 clear hM
 obtain ⟨n1, hn1⟩ := zl s.1.length
 obtain ⟨n2, hn2⟩ := zl s.2.length
 rw [hn1] at HV1 ⊢
 rw [hn2] at HV2 ⊢
 clear hn1 hn2
 generalize f.kinds.length = lk, f.base.length = lb, f.blocks.length = ls, f.params = fp, f.result = fr at *
 go_enter Tryz.func101, Tryz.ntmps101
 go_upto_region 1 with (fail)
 obtain ⟨w1, hw1⟩ := zr (((w.alloc (.cells #[.slice A1 n1 d1, .slice A2 n2 d2] 119)).alloc (.cells #[.slice Ak lk ck, .slice Ab lb cb, .int .i64 fp, .int .i64 fr, .slice As ls cs] 52)).alloc (.cells #[.slice none 0 0, .slice none 0 0] 119))
 obtain ⟨h5, hh5⟩ := zl w.heap.size
 have HX0 := zy3 hw1 hh5
 have HX1 := zm3 hw1 hh5
 have HX2 := zx3 hw1 hh5
 have HB1 := zb3 hw1
 have w1s := HB1.out.size
 have w1z := hide (show w1.heap.size = h5 + 1 + 1 + 1 by rw [hw1, <- hh5]; simp only [World.size_alloc])
 have HK0 := zk2 HX0
 have lHX0 := HX0.out.lt
 have HK1 := zk5 HX1
 have lHX1 := HX1.out.lt
 have HK2 := zk2 HX2
 have lHX2 := HX2.out.lt
 have h5g : w.heap.size <= h5 := by omega
 rw [<- hw1, hh5]
 clear hw1 hh5
 obtain ⟨M1, hM1⟩ : ∃ M1 : Nat -> Prop, (fun b => M b \/ b = h5 \/ b = h5 + 1 + 1) = M1 := ⟨_, rfl⟩
 have hmi : ∀ b, M1 b ↔ (M b \/ b = h5 \/ b = h5 + 1 + 1) := fun b => by rw [<- hM1]
 have HMS := hide (fun b (h : M b) => (hmi b).2 (.inl h))
 have HM0 := hide ((hmi h5).2 (.inr (.inl rfl)))
 have HM2 := hide ((hmi (h5 + 1 + 1)).2 (.inr (.inr rfl)))
 have HML := hide (fun b (h : M1 b) => (show b < w1.heap.size by have := w1z.out; rcases (hmi b).1 h with h | h | h; have := HMM.out b h; omega; omega; omega))
 have HMO := hide (fun b (hb : b < w.heap.size) (h : M1 b) => (show M b by rcases (hmi b).1 h with h | h | h; exact h; omega; omega))
 clear hM1 hmi
 have HV1' := hide (HV1.out.keep HB1.out.size (fun b hb _ => HB1.out.block b hb) HMO.out)
 have HV2' := hide (HV2.out.keep HB1.out.size (fun b hb _ => HB1.out.block b hb) HMO.out)
 go_wp2
 go_loopw [11] (fun i wr => ∃ (k : Nat) (u1 u2 : Value), k <= n /\ i = .int .i64 k /\ Box wr h5 #[u1, u2] 119 /\ Box wr (h5 + 1) #[.slice Ak lk ck, .slice Ab lb cb, .int .i64 fp, .int .i64 fr, .slice As ls cs] 52 /\ Box wr (h5 + 1 + 1) #[.slice none 0 0, .slice none 0 0] 119 /\ Hid (SetM wr M1 u1 (tk k).1) /\ Hid (SetM wr M1 u2 (tk k).2) /\ Below w.heap.size w wr) (fun i _ => n - (intOf i).toNat)
 case atStart => exact ⟨0, _, _, Nat.zero_le _, rfl, HX0.out, HX1.out, HX2.out, hide (by rw [HT0.out]; exact HV1'.out), hide (by rw [HT0.out]; exact HV2'.out), HB1.out⟩
 case round =>
  obtain ⟨k, u1, u2, hk, rfl, b0, b1, b2, HU1, HU2, hb⟩ := hrel
  obtain ⟨wo, rfl⟩ := zr wr
  have hsz := hb.size
  have HBEL := hide hb
  have HY0 := hide b0
  have HY1 := hide b1
  have HY2 := hide b2
  have lbb := b2.lt
  clear hb b0 b1 b2
  obtain ⟨B1, e1, hq1, -, -, -, -⟩ := HU1.out
  obtain ⟨B2, e2, hq2, -, -, -, -⟩ := HU2.out
  subst hq1
  subst hq2
  have HGK := hide (HGD.out k)
  obtain ⟨tq, htq⟩ := zl (tk k)
  rw [htq] at HU1 HU2 HGK
  have HTQ := hide htq
  have HZ0 := hide (show Box wo h5 #[.slice B1 tq.1.length e1, .slice B2 tq.2.length e2] 119 by rw [<- htq]; exact HY0.out)
  clear HY0
  clear htq
  by_cases hlt : k < n
  case neg =>
   obtain rfl : k = n := by omega
   have HRES := hide (show thrW f l s = tq by rw [HTE.out, HTQ.out])
   generalize tq.1.length = m1, tq.2.length = m2 at *
   obtain ⟨k0, -⟩ := HZ0.out.cell 0 (v := .slice B1 m1 e1) rfl
   obtain ⟨k1, -⟩ := HZ0.out.cell 1 (v := .slice B2 m2 e2) rfl
   obtain ⟨j0, f0⟩ := HY2.out.cell 0 (v := .slice none 0 0) rfl
   obtain ⟨j1, f1⟩ := HY2.out.cell 1 (v := .slice none 0 0) rfl
   have HX4 := hide ((HY2.out.set 0 (.slice B1 m1 e1)).set 1 (.slice B2 m2 e2))
   have HBG := hide (((But.refl (h5 + 1 + 1) wo).set (j := 0) (v := .slice B1 m1 e1)).set (j := 1) (v := .slice B2 m2 e2))
   go_wp2
   obtain ⟨w3, hw3⟩ := zr ((wo.setCell ⟨h5 + 1 + 1, 0, none⟩ (.slice B1 m1 e1)).setCell ⟨h5 + 1 + 1, 1, none⟩ (.slice B2 m2 e2))
   rw [<- hw3] at HX4 HBG ⊢
   have q0 := (HX4.out.cell 0 (v := .slice B1 m1 e1) rfl).1
   have q1 := (HX4.out.cell 1 (v := .slice B2 m2 e2) rfl).1
   clear hw3
   refine bodyPost_ret (v := .agg #[.slice B1 m1 e1, .slice B2 m2 e2]) (by simp [results, Tryz.results101, go_sem, q0, q1]) rfl ⟨_, _, rfl, ?_, ?_, HBG.out.below HBEL.out (by omega) (by omega)⟩
   ·rw [HRES.out]; exact HU1.out.keep HBG.out.size (fun b hb hm => HBG.out.block b hb (fun e => hm (e ▸ HM2.out))) (fun b _ h => HMS.out b h)
   ·rw [HRES.out]; exact HU2.out.keep HBG.out.size (fun b hb hm => HBG.out.block b hb (fun e => hm (e ▸ HM2.out))) (fun b _ h => HMS.out b h)
  obtain ⟨y, hy⟩ : ∃ y, l[k]? = some y := ⟨_, List.getElem?_eq_getElem (by have := HN.out; omega)⟩
  obtain ⟨b, o, Ay, cy, hA, hbb, ⟨z0, z1, z2, z3, z4, z5, z6⟩, hyi⟩ := (HLK.out wo HBEL.out).get hy
  subst hA
  have HYI := hide hyi
  have HYM := hide (List.mem_of_getElem? hy)
  have HNX := hide (HST.out k y hy)
  rw [HTQ.out] at HNX
  have hbs : b < wo.heap.size := by have := HBEL.out.size; omega
  have HBE1 := hide (fun W hW hxi u1 u2 g1 g2 => HBE.out y (.slice Ay y.args.length cy) HYM.out W hW hxi u1 u2 tq HGK.out g1 g2)
  clear hyi hy HTQ HGK
  generalize jb2 f y tq = nq at *
  generalize tq.1.length = m1, tq.2.length = m2 at *
  have HYI' := hide (fun W (hW : Below wo.heap.size wo W) => HYI.out.keep (up hW (Nat.le_trans hB HBEL.out.size)) (fun _ h => h))
  clear HYI
  generalize y.args.length = ly, y.op = yo, y.d = yd, y.a = ya, y.b = yb, y.n = yn, y.m = ym at *
  go_upto_region 4 with (fail)
  obtain ⟨w4, hw4⟩ := zr (wo.alloc (.cells #[.int .i64 yo, .int .i64 yd, .int .i64 ya, .int .i64 yb, .int .i64 yn, .int .i64 ym, .slice Ay ly cy] 57))
  obtain ⟨h7, hh7⟩ := zl wo.heap.size
  have HZX0 := zx1 hw4 hh7
  have HB4 := zb1 hw4
  have w4s := HB4.out.size
  have w4z := zs1 hw4 hh7
  have HZK0 := zk7 HZX0
  have lHZX0 := HZX0.out.lt
  have h7g : wo.heap.size <= h7 := by omega
  rw [<- hw4, hh7]
  clear hw4 hh7
  obtain ⟨x0, x1, x2, x3, x4, x5, x6⟩ := HZK0.out w4 (Below.refl _ _)
  obtain ⟨s0, -⟩ := (HZ0.out.below HB4.out).cell 0 (v := .slice B1 m1 e1) rfl
  obtain ⟨s1, -⟩ := (HZ0.out.below HB4.out).cell 1 (v := .slice B2 m2 e2) rfl
  have c0 := ((HY1.out.below HB4.out).cell 0 (v := .slice Ak lk ck) rfl).1
  have c1 := ((HY1.out.below HB4.out).cell 1 (v := .slice Ab lb cb) rfl).1
  have c2 := ((HY1.out.below HB4.out).cell 2 (v := .int .i64 fp) rfl).1
  have c3 := ((HY1.out.below HB4.out).cell 3 (v := .int .i64 fr) rfl).1
  have c4 := ((HY1.out.below HB4.out).cell 4 (v := .slice As ls cs) rfl).1
  clear z0 z1 z2 z3 z4 z5 z6
  have HBL4 := hide (HBEL.out.trans (HB4.out.mono hsz))
  go_wp2_with (go_at_call 84; (with_reducible refine (HBE1.out w4 HBL4.out (HYI'.out w4 HB4.out) _ _ (HU1.out.below HB4.out).v (HU2.out.below HB4.out).v).mono ?_); rintro e w5 ⟨r1, r2, rfl, hn1, hn2, hb5⟩; have HN1 := hide hn1; have HN2 := hide hn2; have HB5 := hide hb5; have hq5 := (HZ0.out.below HB4.out).below hb5; obtain ⟨t0, f0⟩ := hq5.cell 0 (v := .slice B1 m1 e1) rfl; obtain ⟨t1, f1⟩ := hq5.cell 1 (v := .slice B2 m2 e2) rfl; have HQ5 := hide hq5; obtain ⟨D1, g1, hr1, -, -, -, -⟩ := hn1; obtain ⟨D2, g2, hr2, -, -, -, -⟩ := hn2; subst hr1; subst hr2; have hz5 := hb5.size; clear hb5 hq5)
  obtain ⟨w6, hw6⟩ := zr ((w5.setCell ⟨h5, 0, none⟩ (.slice D1 nq.1.length g1)).setCell ⟨h5, 1, none⟩ (.slice D2 nq.2.length g2))
  have HBG := hide (show But h5 w5 w6 by rw [hw6]; exact ((But.refl _ _).set).set)
  have HX6 := hide (show Box w6 h5 #[.slice D1 nq.1.length g1, .slice D2 nq.2.length g2] 119 by rw [hw6]; exact (HQ5.out.set 0 (.slice D1 nq.1.length g1)).set 1 (.slice D2 nq.2.length g2))
  have HBL5 := hide (HBL4.out.trans (HB5.out.mono HBL4.out.size))
  have HRL := hide (show SetM w6 M1 (.slice D1 nq.1.length g1) (tk (k + 1)).1 /\ SetM w6 M1 (.slice D2 nq.2.length g2) (tk (k + 1)).2 by
   have hlt4 : ∀ b, M1 b -> b < w4.heap.size := fun b hm => by have := HML.out b hm; have := w1z.out; have := HB4.out.size; omega
   rw [<- HNX.out]
   exact ⟨(HN1.out.setM hlt4).keep HBG.out.size (fun b hb hm => HBG.out.block b hb (fun e => hm (e ▸ HM0.out))) (fun _ _ h => h), (HN2.out.setM hlt4).keep HBG.out.size (fun b hb hm => HBG.out.block b hb (fun e => hm (e ▸ HM0.out))) (fun _ _ h => h)⟩)
  rw [<- hw6]
  clear hw6
  go_roundw
  case rel => exact ⟨k + 1, _, _, by omega, by go_num, HX6.out, HBG.out.box ((HY1.out.below HB4.out).below HB5.out) (by omega), HBG.out.box ((HY2.out.below HB4.out).below HB5.out) (by omega), hide HRL.out.1, hide HRL.out.2, HBG.out.below HBL5.out (by omega) (by omega)⟩
  case measure => simp [intOf]; omega
theorem jsk {w : World} {g i j b o : Nat} {u v : Value} (h : b ≠ g) : ((w.setCell ⟨g, i, none⟩ u).setCell ⟨g, j, none⟩ v).cell? ⟨b, o, none⟩ = w.cell? ⟨b, o, none⟩ := by
 rw [World.cell?_setCell_far _ _ _ _ (by simpa using h.symm), World.cell?_setCell_far _ _ _ _ (by simpa using h.symm)]
theorem jrf (f : FunV) (w : World) (v1 v2 u1 u2 : Value) (s t : KSt) (hs : GoodK f s) (ht : GoodK f t) (h1 : SetV w v1 s.1) (h2 : SetV w v2 s.2) (g1 : SetV w u1 t.1) (g2 : SetV w u2 t.2) :
  Calls Tryz.prog 131 #[.agg #[v1, v2], .agg #[u1, u2]] w fun e w' => ∃ r1 r2, e = .returned (.agg #[r1, r2]) /\ WN w w' r1 (jbd s t).1 /\ WN w w' r2 (jbd s t).2 /\ Below w.heap.size w w' := by
 have l1 := hs.l1
 have l2 := hs.l2
 have l3 := ht.l1
 have l4 := ht.l2
 have HMA := hide (fun (W : World) (hW : Below w.heap.size w W) => meetV (h1.below hW) (g1.below hW) (by omega) (by omega) hs.w1 ht.w1)
 have HMB := hide (fun (W : World) (hW : Below w.heap.size w W) => meetV (h2.below hW) (g2.below hW) (by omega) (by omega) hs.w2 ht.w2)
 obtain ⟨A1, d1, rfl, -, -, -⟩ := h1
 obtain ⟨A2, d2, rfl, -, -, -⟩ := h2
 obtain ⟨A3, d3, rfl, -, -, -⟩ := g1
 obtain ⟨A4, d4, rfl, -, -, -⟩ := g2
 unfold jbd
 generalize jce s.1 t.1 = j1 at *
 generalize jce s.2 t.2 = j2 at *
 generalize s.1.length = n1, s.2.length = n2, t.1.length = n3, t.2.length = n4 at *
 clear hs ht
 go_enter Tryz.func131, Tryz.ntmps131
 go_upto_region 1 with (fail)
 obtain ⟨w1, hw1⟩ := zr (((w.alloc (.cells #[.slice A1 n1 d1, .slice A2 n2 d2] 119)).alloc (.cells #[.slice A3 n3 d3, .slice A4 n4 d4] 119)).alloc (.cells #[.slice none 0 0, .slice none 0 0] 119))
 obtain ⟨h5, hh5⟩ := zl w.heap.size
 have HX0 := zy3 hw1 hh5
 have HX1 := zm3 hw1 hh5
 have HX2 := zx3 hw1 hh5
 have HB1 := zb3 hw1
 have w1s := HB1.out.size
 have w1z := hide (show w1.heap.size = h5 + 1 + 1 + 1 by rw [hw1, <- hh5]; simp only [World.size_alloc])
 have HK0 := zk2 HX0
 have lHX0 := HX0.out.lt
 have HK1 := zk2 HX1
 have lHX1 := HX1.out.lt
 have HK2 := zk2 HX2
 have lHX2 := HX2.out.lt
 have h5g : w.heap.size <= h5 := by omega
 rw [<- hw1, hh5]
 clear hw1 hh5
 obtain ⟨s0, s1⟩ := HK0.out w1 (Below.refl _ _)
 obtain ⟨t0, t1⟩ := HK1.out w1 (Below.refl _ _)
 have HKX := hide (fun (W : World) (hW : Below w1.heap.size w1 W) => And.intro (HK0.out W hW).1 (And.intro (HK0.out W hW).2 (And.intro (HK1.out W hW).1 (HK1.out W hW).2)))
 have hx2w1 := HX2.out.below (Below.refl _ _)
 obtain ⟨k0, f0⟩ := hx2w1.cell 0 (v := .slice none 0 0) rfl
 obtain ⟨k1, f1⟩ := hx2w1.cell 1 (v := .slice none 0 0) rfl
 have HUP := hide (fun (W : World) (hW : Below w1.heap.size w1 W) => HB1.out.trans (hW.mono HB1.out.size))
 have hne1 : h5 ≠ h5 + 1 + 1 := by omega
 have hne2 : h5 + 1 + 1 ≠ h5 := by omega
 have hne3 : ¬ h5 = h5 + 1 + 1 := by omega
 have hne4 : ¬ h5 + 1 + 1 = h5 := by omega
 go_region_held3 (fun w' => w'.cell? ⟨h5, 0, none⟩ = some (.slice A1 n1 d1) /\ w'.cell? ⟨h5, 1, none⟩ = some (.slice A2 n2 d2) /\ w'.cell? ⟨h5 + 1, 0, none⟩ = some (.slice A3 n3 d3) /\ w'.cell? ⟨h5 + 1, 1, none⟩ = some (.slice A4 n4 d4)) (first | go_keep | (exact q7) | (exact q6) | (dsimp only; refine ⟨?_, ?_, ?_, ?_⟩ <;> (rw [jsk (by omega)]; assumption)))
  (first
   | (go_at_call 155; refine (HMB.out w6 (HUP.out w6 HC6.out)).mono ?_; rintro e w7 ⟨r2, rfl, hn2, hb7⟩; have hc7 := HC6.out.trans (hb7.mono HC6.out.size); have q7 := HKX.out w7 hc7; have z70 := q7.1; have z71 := q7.2.1; have z72 := q7.2.2.1; have z73 := q7.2.2.2; have HN2 := hide (hn2.lower (W0 := w1) HC6.out.size); obtain ⟨D2, g2, hr2, -, -, -, -⟩ := hn2; subst hr2; have HN1 := hide (HN16.out.below hb7); have hx7 := HX2.out.below hc7; obtain ⟨k0, f0⟩ := hx7.cell 0 (v := .slice none 0 0) rfl; obtain ⟨k1, f1⟩ := hx7.cell 1 (v := .slice none 0 0) rfl; have hz7 := hc7.size; have HC7 := hide hc7; have HX7 := hide hx7; clear hb7 hc7 hx7)
   | (go_at_call 155; refine (HMA.out _ (HUP.out _ (ja0 (Below.refl _ _) 1))).mono ?_; rintro e w6 ⟨r1, rfl, hn1, hb6⟩; have hc6 : Below w1.heap.size w1 w6 := ⟨hb6.os, hb6.tape, hb6.output, hb6.size, hb6.block⟩; have q6 := HKX.out w6 hc6; have HN16 := hide (hn1.lower (W0 := w1) (Nat.le_refl _)); obtain ⟨D1, g1, hr1, -, -, -, -⟩ := hn1; subst hr1; have HC6 := hide hc6; clear hb6 hc6))
 all_goals
  obtain ⟨w8, hw8⟩ := zr ((w7.setCell ⟨h5 + 1 + 1, 0, none⟩ (.slice D1 j1.length g1)).setCell ⟨h5 + 1 + 1, 1, none⟩ (.slice D2 j2.length g2))
  have HBG := hide (show But (h5 + 1 + 1) w7 w8 by rw [hw8]; exact ((But.refl _ _).set).set)
  have HX8 := hide (show Box w8 (h5 + 1 + 1) #[.slice D1 j1.length g1, .slice D2 j2.length g2] 119 by rw [hw8]; exact (HX7.out.set 0 (.slice D1 j1.length g1)).set 1 (.slice D2 j2.length g2))
  rw [<- hw8]
  clear hw8
  go_wp2
  have z0 := (HX8.out.cell 0 (v := .slice D1 j1.length g1) rfl).1
  have z1 := (HX8.out.cell 1 (v := .slice D2 j2.length g2) rfl).1
  refine bodyPost_ret (v := .agg #[.slice D1 j1.length g1, .slice D2 j2.length g2]) (by simp [results, Tryz.results131, go_sem, z0, z1]) rfl ⟨_, _, rfl, ?_, ?_, HBG.out.below (HUP.out w7 HC7.out) (by omega) (by omega)⟩
  ·exact (HN1.out.but HBG.out (by have := w1z.out; omega)).lower HB1.out.size
  ·exact (HN2.out.but HBG.out (by have := w1z.out; omega)).lower HB1.out.size
theorem jrd (f : FunV) (w : World) (v1 v2 u1 u2 : Value) (s t : KSt) (hs : GoodK f s) (ht : GoodK f t) (h1 : SetV w v1 s.1) (h2 : SetV w v2 s.2) (g1 : SetV w u1 t.1) (g2 : SetV w u2 t.2) :
  Calls Tryz.prog 132 #[.agg #[v1, v2], .agg #[u1, u2]] w fun e w' => e = .returned (.bool (decide (s = t))) /\ Below w.heap.size w w' := by
 have l1 := hs.l1
 have l2 := hs.l2
 have l3 := ht.l1
 have l4 := ht.l2
 have HMA := hide (fun (W : World) (hW : Below w.heap.size w W) => sameV (h1.below hW) (g1.below hW) (by omega) (by omega) hs.t1 ht.t1)
 have HMB := hide (fun (W : World) (hW : Below w.heap.size w W) => sameV (h2.below hW) (g2.below hW) (by omega) (by omega) hs.t2 ht.t2)
 obtain ⟨A1, d1, rfl, -, -, -⟩ := h1
 obtain ⟨A2, d2, rfl, -, -, -⟩ := h2
 obtain ⟨A3, d3, rfl, -, -, -⟩ := g1
 obtain ⟨A4, d4, rfl, -, -, -⟩ := g2
 have hr : decide (s = t) = (decide (s.1 = t.1) && decide (s.2 = t.2)) := by
  obtain ⟨a, b⟩ := s
  obtain ⟨c, d⟩ := t
  rw [Bool.eq_iff_iff]
  simp
 rw [hr]
 generalize decide (s.1 = t.1) = b1 at *
 generalize decide (s.2 = t.2) = b2 at *
 generalize s.1.length = n1, s.2.length = n2, t.1.length = n3, t.2.length = n4 at *
 clear hs ht hr
 cases b1
 all_goals
  go_enter Tryz.func132, Tryz.ntmps132
  go_upto_region 1 with (fail)
  obtain ⟨w1, hw1⟩ := zr ((w.alloc (.cells #[.slice A1 n1 d1, .slice A2 n2 d2] 119)).alloc (.cells #[.slice A3 n3 d3, .slice A4 n4 d4] 119))
  obtain ⟨h5, hh5⟩ := zl w.heap.size
  have HX0 := zy2 hw1 hh5
  have HX1 := zx2 hw1 hh5
  have HB1 := zb2 hw1
  have w1s := HB1.out.size
  have w1z := zs2 hw1 hh5
  have HK0 := zk2 HX0
  have lHX0 := HX0.out.lt
  have HK1 := zk2 HX1
  have lHX1 := HX1.out.lt
  have h5g : w.heap.size <= h5 := by omega
  rw [<- hw1, hh5]
  clear hw1 hh5
  obtain ⟨s0, s1⟩ := HK0.out w1 (Below.refl _ _)
  obtain ⟨t0, t1⟩ := HK1.out w1 (Below.refl _ _)
  go_wp2_with (first
   | (go_at_call 156; (with_reducible refine (HMB.out _ (ja0 HB1.out q)).mono ?_); rintro e w6 ⟨rfl, q2, rfl⟩)
   | (go_at_call 156; (with_reducible refine (HMA.out w1 HB1.out).mono ?_); rintro e w6 ⟨rfl, q, rfl⟩))
  go_ret
  exact ⟨rfl, ja0 HB1.out _⟩
theorem jrl (vk vb vs : Value) (f : FunV) (hk : KOk f) (w : World) (B : Nat) (hB : B <= w.heap.size) (hi : FunI w (· < B) vk vb vs f) :
  Calls Tryz.prog 100 #[.agg #[vk, vb, .int .i64 f.params, .int .i64 f.result, vs]] w fun e w' => ∃ v, e = .returned v /\ WN w w' v (iniW f).1 /\ Below w.heap.size w w' := by
 obtain ⟨Ak, ck, rfl, hck, hmk⟩ := hi.1.open'
 obtain ⟨Ab, cb, rfl, hcb, hmb⟩ := hi.2.1.open'
 obtain ⟨As, cs, rfl, hcs, hms⟩ := hi.2.2.1.open'
 obtain ⟨i0, hi0, iz0, iz1, iz2⟩ := info_parts jc5
 have HI := hide hi0
 have hpn := hk.pn
 have hpk := hk.pk
 have hk48 := hk.kinds
 obtain ⟨np, hnp⟩ : ∃ np : Nat, f.params = np := ⟨f.params.toNat, by omega⟩
 have hres : (iniW f).1 = ofL (je4 np) := by unfold iniW; rw [hnp, Int.toNat_natCast]
 rw [hres, hnp]
 rw [hnp] at hpk
 have hln : (je4 np).length = np := by simp [je4]
 have HOF := hide (fun (W : World) (A : Option Addr) (n c : Nat) (hn : (je4 np).length = n) (hr : Sl W W.heap.size .i64 A (je4 np)) => jqs A n c (je4 np) W hr hn (by omega) (fun z hz => (by obtain ⟨v, rfl, h⟩ := argsN_mem.1 hz; omega)))
 clear hln
 have hmin : min (np : Int) (f.kinds.length : Int) = (np : Int) := by omega
 clear hi hk hi0 hnp hres hpn
 generalize f.kinds.length = lk, f.base.length = lb, f.blocks.length = ls, f.result = fr at *
 have hle : ¬ ((lk : Int) < (np : Int)) := by omega
 have hle2 : np <= lk := by omega
 go_enter Tryz.func100, Tryz.ntmps100
 go_upto_region 2 with (fail)
 obtain ⟨w1, hw1⟩ := zr (w.alloc (.cells #[.slice Ak lk ck, .slice Ab lb cb, .int .i64 (np : Int), .int .i64 fr, .slice As ls cs] 52))
 obtain ⟨h5, hh5⟩ := zl w.heap.size
 have HX0 := zx1 hw1 hh5
 have HB1 := zb1 hw1
 have w1s := HB1.out.size
 have w1z := zs1 hw1 hh5
 have HK0 := zk5 HX0
 have lHX0 := HX0.out.lt
 have h5g : w.heap.size <= h5 := by omega
 rw [<- hw1, hh5]
 clear hw1 hh5
 obtain ⟨c0, c1, c2, c3, c4⟩ := HK0.out w1 (Below.refl _ _)
 go_wp2
 go_loopw [3, 11] (fun l i wr => ∃ (u : Value) (k : Nat), u = l /\ k <= np /\ i = .int .i64 k /\ Below w1.heap.size w1 wr /\ Hid (Ow wr w1.heap.size 3 .i64 u (je4 k))) (fun _ i _ => np - (intOf i).toNat)
 case atStart => exact ⟨_, 0, rfl, Nat.zero_le _, rfl, Below.refl _ _, hide (Ow.nil _ _ _ _)⟩
 case round =>
  obtain ⟨u, k, rfl, hk, rfl, hb, how⟩ := hrel
  obtain ⟨wo, rfl⟩ := zr wr
  have hsz := hb.size
  have HBW := hide hb
  have HBEL := hide (HB1.out.trans (hb.mono HB1.out.size))
  clear hb
  have hal : (je4 k).length = k := by simp [je4]
  by_cases hlt : k < np
  case neg =>
   obtain rfl : k = np := by omega
   obtain ⟨A, c, rfl, -, -, hs⟩ := how.out.sl
   have HS := hide hs
   have HAL := hide hal
   rw [hal]
   clear hs hal
   go_wp2_with (go_at_call 126; (with_reducible refine (HOF.out wo A k c HAL.out HS.out).mono ?_); rintro e w3 hm; obtain ⟨v, rfl, hn, hb3⟩ := hm.wn)
   go_ret
   exact ⟨_, rfl, hn.lower HBEL.out.size, HBEL.out.trans (hb3.mono HBEL.out.size)⟩
  have HRO := hide (show (je4 k).length < 1099511627776 by omega)
  have HST := hide (show je4 k ++ [(k : Int)] = je4 (k + 1) by unfold je4; rw [List.range_succ, List.map_append]; rfl)
  clear hal
  go_wp2_with (at_builtin; refine jak wo rfl (.tmp 14) (.tmp 16) _ rfl w1.heap.size 3 .i64 i0 _ 8 Tryz.underlying32 HI.out iz0 iz1 iz2 rfl (by omega) u (je4 k) (by rfl) how.out (k : Int) (by rfl) HRO.out hsz ?_; intro v5 w5 ho5 hb5)
  go_roundw
  case rel => exact ⟨v5, k + 1, rfl, by omega, by go_num, HBW.out.trans hb5, hide (by rw [<- HST.out]; exact ho5)⟩
  case measure => simp [intOf]; omega
end Go.Proofs.YthbnbaikdcfbmaaGreatDoor
