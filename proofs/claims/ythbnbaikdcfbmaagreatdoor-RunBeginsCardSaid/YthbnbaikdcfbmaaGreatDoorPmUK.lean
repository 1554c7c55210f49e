/- Layer 10, the program: copying variables; contract of begin. No condition but on lengths. -/
import Derived.Test.YthbnbaikdcfbmaaGreatDoorPmUJ
set_option linter.unusedSimpArgs false
set_option linter.unusedVariables false
set_option maxHeartbeats 2000000
set_option maxRecDepth 100000
namespace Go.Proofs.YthbnbaikdcfbmaaGreatDoor
open Go.RowKit
theorem jni : (Tryz.prog.info? 87).map (fun i => (i.zero, i.size, i.bytes)) = some (some (.agg #[.int .i64 0, .int .i64 0, .int .i64 0]), 3, 24) := by kernel_rfl
theorem info_act : (Tryz.prog.info? 127).map (fun i => (i.zero, i.size, i.bytes)) = some (some (.agg #[.slice none 0 0, .slice none 0 0, .int .i64 0, .int .i64 0, .slice none 0 0, .int .i64 0, .int .i64 0, .slice none 0 0, .int .i64 0]), 9, 136) := by kernel_rfl
theorem jf5 (k : Nat) : madeCells (Value.agg #[.int .i64 0, .int .i64 0, .int .i64 0]).cells (k * 3) = ((List.replicate k vZ).flatMap valC).toArray := by
 have hz : (Value.agg #[.int .i64 0, .int .i64 0, .int .i64 0]).cells = #[.int .i64 0, .int .i64 0, .int .i64 0] := rfl
 rw [hz]
 have hl : ((List.replicate k vZ).flatMap valC).length = k * 3 := by rw [jb3 jbh, List.length_replicate]
 have hall : ∀ (m i : Nat), i < m * 3 -> ((List.replicate m vZ).flatMap valC)[i]? = some (Value.int .i64 0) := by
  intro m
  induction m with
  | zero => intro i hi; omega
  | succ m ih =>
   intro i hi
   rw [List.replicate_succ, List.flatMap_cons]
   by_cases h3 : i < 3
   ·rw [List.getElem?_append_left (by exact h3)]
    have : i = 0 \/ i = 1 \/ i = 2 := by omega
    rcases this with rfl | rfl | rfl <;> rfl
   ·rw [List.getElem?_append_right (by show 3 <= i; omega)]
    exact ih (i - 3) (by omega)
 unfold madeCells
 apply Array.ext
 ·simp [hl]
 ·intro i h1 h2
  have hi : i < k * 3 := by simpa using h1
  have e := hall k i hi
  have e2 : ((List.replicate k vZ).flatMap valC).toArray[i] = Value.int .i64 0 := by
   have : ((List.replicate k vZ).flatMap valC)[i]'(by rw [hl]; exact hi) = Value.int .i64 0 := by
    have := List.getElem?_eq_getElem (show i < ((List.replicate k vZ).flatMap valC).length by rw [hl]; exact hi)
    rw [e] at this
    injection this with this
    exact this.symm
   simpa using this
  rw [e2]
  have hm : i % 3 = 0 \/ i % 3 = 1 \/ i % 3 = 2 := by omega
  simp only [Array.getElem_map, Array.getElem_range]
  rcases hm with h | h | h <;> simp [h]
theorem OwC.ofBox {β : Type} {c : β -> List Value} {T : TypeId} {sz : Nat} (hc : ∀ y, (c y).length = sz) {w : World} {base g n : Nat} {l : List β} (hn : l.length = n) (hb : Box w g (l.flatMap c).toArray T) (hB : base <= g) (hm : n <= 1000000) : OwC c T sz w base (.slice (some ⟨g, 0, none⟩) n n) l := by
 subst hn
 exact ⟨jb3 hc l, .inr ⟨g, l.length, (l.flatMap c).toArray, rfl, hB, hb, Nat.le_refl _, by simp only [maxLen]; omega, by simp [jb3 hc l], by rw [List.toList_toArray, List.take_of_length_le (by rw [jb3 hc l]; exact Nat.le_refl _)]⟩⟩
theorem jio {P : Program} (w : World) (dT sT ty elem : TypeId) (g dLen dCap : Nat) (A : Option Addr) (sLen sCap : Nat) (cur : Array Value) (t : TypeId) (cs : List Value) (sz : Nat)
  (hu : P.underlying dT = some (.slice elem)) (hs : (P.info? elem).map (·.size) = some sz) (hg : w.heap[g]? = some (.cells cur t (0, 0))) (hle : sLen <= dLen) (hn : cs.length = sLen * sz)
  (hsrc : 0 < sLen -> ∃ a, A = some a /\ ∀ j v, cs[j]? = some v -> w.cell? (a.add j) = some v) (hfit : cs.length <= cur.size) (h1 : ∀ v ∈ cs, v.oneCell' = true) :
  (Builtin.copy_ #[dT, sT] ty #[.slice (some ⟨g, 0, none⟩) dLen dCap, .slice A sLen sCap]).run P w =
   .ok (goInt sLen) (w.setRow g (cs ++ cur.toList.drop cs.length).toArray) := by
 have hmin : Nat.min sLen dLen = sLen := Nat.min_eq_left hle
 have hst := run_storeCells_at P g 0 t cs 0 cur w hg (by simpa using hfit) h1
 cases hq : P.info? elem with
 | none => simp [hq] at hs
 | some i =>
  have hi : i.size = sz := by simpa [hq] using hs
  by_cases h0 : sLen = 0
  ·subst h0
   have hc0 : cs = [] := List.eq_nil_of_length_eq_zero (by simpa using hn)
   subst hc0
   have hl : ∀ (x : Addr), (loadCells x 0).run P w = .ok #[] w := fun x => by simpa using run_loadCells_list (P := P) w x [] (by simp)
   have hself : w.setRow g cur = w := setRow_self w g cur t (0, 0) hg
   cases A <;> simp [Builtin.copy_, run_underlying hu, Builtin.lenOf, Builtin.firstCells, sizeOf, typeInfo, hq, storeCells, hl, hself]
  ·obtain ⟨a, rfl, hc⟩ := hsrc (by omega)
   have hl := run_loadCells_list (P := P) w a cs hc
   rw [hn] at hl
   simp [Builtin.copy_, run_underlying hu, Builtin.lenOf, Builtin.firstCells, sizeOf, typeInfo, hq, hi, hmin, hl, hst]
theorem jhl (m d : Nat) : ((List.replicate (m + d) vZ).flatMap valC).drop (m * 3) = (List.replicate d vZ).flatMap valC := by
 have hl : ((List.replicate m vZ).flatMap valC).length = m * 3 := by rw [jb3 jbh, List.length_replicate]
 rw [<- List.replicate_append_replicate, List.flatMap_append, <- hl, List.drop_left]
theorem jge {w : World} {ops : Array Oper} {rest : List Oper} {o : Oper} {a : Act} {Q : Exit -> Act -> World -> Prop} (hgd : o.guard = none) (d s : Operand)
  (ho : o.op = .call { callee := .builtin .copy, args := #[d, s], argTypes := #[60, 60] }) (g k m c : Nat) (A : Option Addr) (l : List ValV) (hd : a.eval d = .slice (some ⟨g, 0, none⟩) k k) (hs : a.eval s = .slice A m c)
  (hm : l.length = m) (hmk : m <= k) (hsrc : 0 < m -> ∃ b, A = some ⟨b, 0, none⟩ /\ ∀ (j : Nat) (v : Value), (l.flatMap valC)[j]? = some v -> w.cell? ⟨b, j, none⟩ = some v)
  (hb : Box w g ((List.replicate k vZ).flatMap valC).toArray 87)
  (h : ∀ w', Box w' g ((l ++ List.replicate (k - m) vZ).flatMap valC).toArray 87 -> Below g w w' -> (∀ b, b ≠ g -> w'.heap[b]? = w.heap[b]?) -> w'.heap.size = w.heap.size -> wpList Tryz.prog ops Q rest (a.put o.dst (goInt m)) w') :
  wpList Tryz.prog ops Q (o :: rest) a w := by
 subst hm
 have hll : (l.flatMap valC).length = l.length * 3 := jb3 jbh l
 have hzl : ((List.replicate k vZ).flatMap valC).length = k * 3 := by rw [jb3 jbh, List.length_replicate]
 have hrun := jio (P := Tryz.prog) w 60 60 o.type 87 g k k A l.length c ((List.replicate k vZ).flatMap valC).toArray 87 (l.flatMap valC) 3 (by kernel_rfl) (by kernel_rfl) hb hmk hll
  (fun hp => by obtain ⟨b, rfl, hc⟩ := hsrc hp; exact ⟨_, rfl, fun j v hj => by rw [Addr.add_lit, Nat.zero_add]; exact hc j v hj⟩) (by rw [List.size_toArray, hll, hzl]; exact Nat.mul_le_mul_right _ hmk) (fun v hv => by
   obtain ⟨x, -, hx⟩ := List.mem_flatMap.1 hv
   simp [valC] at hx
   rcases hx with rfl | rfl | rfl <;> rfl)
 have hcells : (l.flatMap valC ++ ((List.replicate k vZ).flatMap valC).toArray.toList.drop (l.flatMap valC).length) = (l ++ List.replicate (k - l.length) vZ).flatMap valC := by
  rw [List.flatMap_append, List.toList_toArray, hll]
  obtain ⟨dk, rfl⟩ : ∃ dk, k = l.length + dk := ⟨k - l.length, by omega⟩
  rw [jhl, Nat.add_sub_cancel_left]
 rw [hcells] at hrun
 refine wpList_plain hgd fun K hK => ?_
 unfold Oper.wp execOp
 simp only [ho, resolve, invoke, builtin, Sem.run_bind, Sem.run_pure, Result.andThen_ok, List.map_toArray, List.map_cons, List.map_nil, hd, hs, hrun]
 exact hK _ _ (h _ (setRow_heap w g _ _ _ _ hb) (below_setRow (Below.refl _ _) (Nat.le_refl _) _) (fun b hb => setRow_other w g b _ hb) (by simp [World.setRow]))
theorem jgl {P : Program} (w : World) {ops : Array Oper} {o : Oper} {a : Act} {K : Act -> World -> Prop} {Q : Exit -> Act -> World -> Prop} {E : Prop} (hgd : o.guard = none) (s x : Operand) (t : TypeId)
  (ho : o.op = .call { callee := .builtin .append, args := #[s, x], argTypes := #[t, t] })
  (base : Nat) (i : TypeInfo) (z : Value) (ht : P.underlying t = some (.slice 127)) (hi : P.info? 127 = some i) (hz : i.zero = some z)
  (hsize : i.size = 9) (hby : i.bytes = 136) (hzs : z.cells.size = 9)
  (v : Value) (os : List (FrV × ActW)) (n : Nat) (hn : os.length = n) (hs : a.eval s = v) (hown : OwA w base v os) (p : FrV × ActW) (h1 : ∀ u ∈ actC p, u.oneCell' = true) (H : Nat) (hH : Box w H (actC p).toArray 127)
  (hx : a.eval x = .slice (some ⟨H, 0, none⟩) 1 1)
  (hroom : n < 1000000) (hbase : base <= w.heap.size)
  (h : ∀ g cap w', OwA w' base (.slice (some ⟨g, 0, none⟩) (n + 1) cap) (os ++ [p]) -> w.grownBy w' v.ownBlock -> (v.ownBlock = some g \/ g = w.heap.size) -> g < w'.heap.size -> K (a.put o.dst (.slice (some ⟨g, 0, none⟩) (n + 1) cap)) w') :
  if Region.wanted o (yielded ops a.tmps) = true then Oper.wp P o a w K Q else E := by
 subst hn
 exact step_append_lies w hgd s x t ho base 127 i z 9 136 ht hi hz hsize hby hzs (by omega) v os.length (os.flatMap actC) hs hown ⟨H, 0, none⟩ 1 1 (actC p) hx rfl
  (World.news_of_block hH) h1 (by omega) (by simp only [maxLen]; omega) (by omega) hbase w.heap.size rfl
  fun g cap w' h2 h3 h4 h5 => h g cap w' (by unfold OwA OwC; rw [List.flatMap_append, List.length_append]; simpa using h2) h3 h4 h5
theorem jhz (base hc : Nat) (vp va vh ve : Value) (P : List FunV) (s : StV) (L : List (FrV × ActW)) (S : Nat -> Prop) (n m c : Nat) (A : Option Addr) (args : List ValV) (G : FunV) (w : World) (hR : RunP w base hc vp P s va vh ve L S) (hp : FunsV w (· < base) vp P) (hG : P[n]? = some G) (hk : G.kinds.length <= 48)
  (ham : args.length = m) (hmk : m <= G.kinds.length) (hsrc : 0 < m -> ∃ b, A = some ⟨b, 0, none⟩ /\ b < w.heap.size /\ ∀ (j : Nat) (v : Value), (args.flatMap valC)[j]? = some v -> w.cell? ⟨b, j, none⟩ = some v) (hL : L.length < 1000) (hbase : base <= w.heap.size) :
  Calls Tryz.prog 40 #[.pointer (some ⟨hc, 0, none⟩), .int .i64 (n : Int), .slice A m c] w fun e w' => e = .returned (.tuple #[]) /\ (∃ va' a, RunP w' base hc vp P { s with stk := L.map Prod.fst ++ [jcy P n args] } va' vh ve (L ++ [(jcy P n args, a)]) S) /\ Below base w w' /\ ∀ b, b < w.heap.size -> ¬ MutR hc va ve L b -> w'.heap[b]? = w.heap[b]? := by
 have hlt := hR.box.lt
 have hbh := hR.hb
 have hne := hR.ne.a
 obtain ⟨i0, hi0, iz0, iz1, iz2⟩ := info_parts info_act
 have HI := hide hi0
 obtain ⟨Ap, cp, rfl, -, -⟩ := hp.open'
 have c0 := (hR.box.cell 0 (v := .slice Ap P.length cp) rfl).1
 obtain ⟨bp, op, Ak, ck, Ab, cb, As, cs, hAp, hbp, ⟨f0, f1, f2, f3, f4⟩, hFI⟩ := hp.get hG
 subst hAp
 have hFG : jhk P n = G := by unfold jhk; rw [hG]; rfl
 have hvars : (jcy P n args).vars = args ++ List.replicate (G.kinds.length - m) vZ := by unfold jcy; rw [hFG, ham]
 have hnP := (List.getElem?_eq_some_iff.1 hG).1
 have HPU := hide (fun (w4 w5 : World) (a : ActW) (va' : Value) => hR.push (f := jcy P n args) (a := a) (w4 := w4) (w5 := w5) (va' := va'))
 have HOA := hide hR.acts
 obtain ⟨Aa, ca, hva, hca, hcam⟩ := hR.acts.sl
 have HVA := hide hva
 have HBX := hide hR.box
 have c1 := (hR.box.cell 1 (v := va) rfl).1
 rw [hva] at c1
 have HV := hide hvars
 have HG := hide hG
 have HAR := hide ham
 have HSR := hide hsrc
 have hmr := ji6 60 87 Tryz.underlying60 jni (by omega) G.kinds.length (by omega)
 rw [jf5] at hmr
 have HFI := hide hFI
 have HML := hide hR.mlt
 obtain ⟨nl, hnl⟩ := zl L.length
 have HNL := hide hnl
 rw [hnl] at c1 hL hca
 have n1 : (0 : Int) <= (n : Int) := by omega
 have n2 : (n : Int) < (P.length : Int) := by omega
 generalize P.length = lp at *
 obtain ⟨gk, hgk⟩ := zl G.kinds.length
 obtain ⟨gb, hgb⟩ := zl G.base.length
 obtain ⟨gs, hgs⟩ := zl G.blocks.length
 obtain ⟨gp, hgp⟩ := zl G.params
 obtain ⟨gr, hgr⟩ := zl G.result
 have HGP := hide (And.intro hgp hgr)
 rw [hgk, hgb, hgs] at HFI
 rw [hgk] at HV hk hmk hmr f0
 rw [hgb] at f1
 rw [hgp] at f2
 rw [hgr] at f3
 rw [hgs] at f4
 have bpl : bp < w.heap.size := by have : bp < base := hbp; omega
 clear hR hp hG hFI hFG hvars ham hsrc hi0 hva hnl hgk hgb hgs hgp hgr hbp hnP
 go_enter Tryz.func40, Tryz.ntmps40
 go_upto_region 2 with (fail)
 obtain ⟨w2, hw2⟩ := zr ((w.alloc (.cells #[.slice Ak gk ck, .slice Ab gb cb, .int .i64 gp, .int .i64 gr, .slice As gs cs] 52)).alloc (.cells ((List.replicate gk vZ).flatMap valC).toArray 87))
 obtain ⟨h5, hh5⟩ := zl w.heap.size
 have HX0 := zy2 hw2 hh5
 have HX1 := zx2 hw2 hh5
 have HB2 := zb2 hw2
 have h5g : w.heap.size <= h5 := by omega
 rw [<- hw2, hh5]
 clear hw2 hh5 f0 f1 f2 f3 f4 c0
 go_upto_region 3 with (refine jge (by rfl) (.tmp 20) (.tmp 21) (by rfl) (h5 + 1) gk m c A args (by rfl) (by rfl) HAR.out hmk (fun hp => by
   obtain ⟨b, e, hb, hc⟩ := HSR.out hp
   exact ⟨b, e, fun j v hj => (HB2.out.cell (p := ⟨b, j, none⟩) hb).trans (hc j v hj)⟩) HX1.out ?_; intro w3 hx3 hb3 hk3 hz3)
 obtain ⟨gz, hgz⟩ := zl (h5 + 1)
 have HX3 := hide (show Box w3 gz ((jcy P n args).vars.flatMap valC).toArray 87 by rw [<- hgz, HV.out]; exact hx3)
 have HB3 := hide (show Below w.heap.size w w3 from HB2.out.trans (hb3.mono (by omega)))
 have HF3 := hide (show Box w3 h5 #[.slice Ak gk ck, .slice Ab gb cb, .int .i64 gp, .int .i64 gr, .slice As gs cs] 52 from (hk3 h5 (by omega)).trans HX0.out)
 have HBC := hide (HBX.out.below HB3.out)
 have lhc := HBC.out.lt
 have lF := HF3.out.lt
 have hgz1 : w.heap.size <= gz := by omega
 have HZ3 := hide HX3.out.lt
 rw [hgz]
 clear hx3 hb3 hk3 hz3 hgz
 have hnF : va.ownBlock ≠ some h5 := fun e => by have := (HOA.out.lt h5 e).2; omega
 have HKS := hide (fun (W : World) (hW : ∀ b, b < w3.heap.size -> va.ownBlock ≠ some b -> W.heap[b]? = w3.heap[b]?) => (show W.cell? ⟨hc, 1, none⟩ = some (.slice Aa nl ca) /\ W.cell? ⟨h5, 0, none⟩ = some (.slice Ak gk ck) /\ W.cell? ⟨h5, 1, none⟩ = some (.slice Ab gb cb) /\ W.cell? ⟨h5, 2, none⟩ = some (.int .i64 gp) /\ W.cell? ⟨h5, 3, none⟩ = some (.int .i64 gr) /\ W.cell? ⟨h5, 4, none⟩ = some (.slice As gs cs) from (And.intro ((ja8 (hW hc lhc hne) 1).trans ((HBC.out.cell 1 (v := va) rfl).1.trans (by rw [HVA.out, HNL.out]))) (And.intro ((ja8 (hW h5 lF (hnF)) 0).trans (HF3.out.cell 0 (v := .slice Ak gk ck) rfl).1) (And.intro ((ja8 (hW h5 lF (hnF)) 1).trans (HF3.out.cell 1 (v := .slice Ab gb cb) rfl).1) (And.intro ((ja8 (hW h5 lF (hnF)) 2).trans (HF3.out.cell 2 (v := .int .i64 gp) rfl).1) (And.intro ((ja8 (hW h5 lF (hnF)) 3).trans (HF3.out.cell 3 (v := .int .i64 gr) rfl).1) ((ja8 (hW h5 lF (hnF)) 4).trans (HF3.out.cell 4 (v := .slice As gs cs) rfl).1))))))))
 have BE0 := hide (show Below w3.heap.size w3 w3.drew from ja7 (Below.refl _ _))
 clear c1
 refine jaa (fun w' => w'.cell? ⟨hc, 1, none⟩ = some (.slice Aa nl ca) /\ w'.cell? ⟨h5, 0, none⟩ = some (.slice Ak gk ck) /\ w'.cell? ⟨h5, 1, none⟩ = some (.slice Ab gb cb) /\ w'.cell? ⟨h5, 2, none⟩ = some (.int .i64 gp) /\ w'.cell? ⟨h5, 3, none⟩ = some (.int .i64 gr) /\ w'.cell? ⟨h5, 4, none⟩ = some (.slice As gs cs)) 12 (by kernel_rfl) (HKS.out _ (fun b hb _ => BE0.out.block b hb)) ?_
 obtain ⟨w100, hw100⟩ := zr w3.drew
 have BE100 := hide (show Below w3.heap.size w3 w100 by rw [hw100]; exact BE0.out)
 rw [<- hw100]
 have hSd := HKS.out w100 (fun b hb _ => BE100.out.block b hb)
 clear hw100
 refine tilM 0 (Or.inr hSd) ?_
 refine tilM 1 (Or.inr hSd) ?_
 refine tilM 2 (Or.inr hSd) ?_
 refine tilM 3 (Or.inr hSd) ?_
 refine tilM 6 (Or.inr hSd) ?_
 refine tilT 4 hSd ?_
 refine tilT 5 hSd ?_
 refine tilM 7 (Or.inr hSd) ?_
 refine ja2 (rs := [8]) (by kernel_rfl) (by simp) ?_
 refine AllTil.cons rfl (fun K hK => ?_) ?_
 ·skip
  rw [if_pos (by rfl)]
  go_simp
  obtain ⟨Hb, hHb⟩ := zl w100.heap.size
  obtain ⟨w101, hw101⟩ := zr (w100.alloc (.cells #[.slice Ak gk ck, .slice Ab gb cb, .int .i64 gp, .int .i64 gr, .slice As gs cs, .int .i64 0, .int .i64 0, .slice (some ⟨gz, 0, none⟩) gk gk, .int .i64 0] 127))
  have BE101 := hide (show Below w3.heap.size w3 w101 by rw [hw101]; exact BE100.out.trans ((ja4 w100 _).mono BE100.out.size))
  have BXb := zx1 hw101 hHb
  rw [<- hw101, hHb]
  clear hw101 hHb
  refine hK.out _ _ (HKS.out w101 (fun b hb _ => BE101.out.block b hb)) ?_
  clear hK K
  try clear hSd
  have hSd := HKS.out w101 (fun b hb _ => BE101.out.block b hb)
  try simp only [tilS, Act.put]
  refine ja2 (rs := [9]) (by kernel_rfl) (by simp) ?_
  refine AllTil.cons rfl (fun K hK => ?_) ?_
  ·skip
   refine jgl w101 (by rfl) _ _ _ (by rfl) base i0 _ Tryz.underlying65 HI.out iz0 iz1 iz2 rfl va L nl HNL.out (by rw [HVA.out, HNL.out]; rfl) (HOA.out.below (HB3.out.trans (BE101.out.mono HB3.out.size))) (jcy P n args, ⟨.slice Ak gk ck, .slice Ab gb cb, gp, gr, .slice As gs cs, .slice (some ⟨gz, 0, none⟩) gk gk⟩) (fun u hu => by simp [actC] at hu; rcases hu with rfl | rfl | rfl | rfl | rfl | rfl | rfl | rfl | rfl <;> rfl) Hb BXb.out (by rfl) (by omega) (by have := HB3.out.size; have := BE101.out.size; omega) ?_
   intro g5 k5 w102 ho5 hg5 hv5 hl5
   have HK5 := hide (show ∀ b, b < w3.heap.size -> va.ownBlock ≠ some b -> w102.heap[b]? = w3.heap[b]? from fun b hb hn => (hg5.block b (by have := BE101.out.size; omega) (fun e => hn e.symm)).trans (BE101.out.block b hb))
   have HO5 := hide ho5
   have HG5 := hide hg5
   have HV5 := hide hv5
   have HS5 := hide (show w101.heap.size <= w102.heap.size from hg5.size)
   clear ho5 hg5 hv5
   refine hK.out _ _ (HKS.out w102 HK5.out) ?_
   clear hK K
   try clear hSd
   have hSd := HKS.out w102 HK5.out
   try simp only [tilS, Act.put]
   refine tilM 10 (Or.inr hSd) ?_
   refine tilM 11 (Or.inr hSd) ?_
   refine ja2 (rs := [12]) (by kernel_rfl) (by simp) ?_
   refine AllTil.last rfl (by rfl) (fun K hK => ?_)
   obtain ⟨z0, g0⟩ := (show Box w102 hc _ _ from (HK5.out hc lhc hne).trans HBC.out).cell 1 (v := va) rfl
   rw [HVA.out] at z0
   rw [if_pos (by rfl)]
   go_simp
   clear z0 g0
   refine hK.out _ _ ?_
   clear hK K hSd
   try simp only [tilS, Act.put]
   refine jac (by kernel_rfl) ?_ _
   go_wp2_with fail
   go_end0
   have hne2 : ∀ g, va.ownBlock = some g -> base <= g /\ g < w.heap.size := fun g hg => HOA.out.lt g hg
   have BEW := HB3.out.trans (BE101.out.mono HB3.out.size)
   have hfr : ∀ b, b < w.heap.size -> ¬ MutR hc va ve L b -> (w102.setCell ⟨hc, 1, none⟩ (.slice (some ⟨g5, 0, none⟩) (nl + 1) k5)).heap[b]? = w.heap[b]? := fun b hb hm => (heap_setCell_other _ _ _ _ (show b ≠ hc from fun e => hm (.inl e))).trans ((HK5.out b (Nat.lt_of_lt_of_le hb HB3.out.size) (fun e => hm (.inr (.inl e)))).trans (HB3.out.block b hb))
   have hbb : Below base w (w102.setCell ⟨hc, 1, none⟩ (.slice (some ⟨g5, 0, none⟩) (nl + 1) k5)) := ((BEW.mono hbase).grown HG5.out (by have := BEW.size; omega) (fun k hk => (hne2 k hk).1)).setCell (p := ⟨hc, 1, none⟩) hbh _
   refine ⟨rfl, ⟨_, ⟨.slice Ak gk ck, .slice Ab gb cb, gp, gr, .slice As gs cs, .slice (some ⟨gz, 0, none⟩) gk gk⟩, HPU.out w101 w102 _ _ BEW HG5.out HO5.out ?_ ⟨⟨G, HG.out, ?_, HGP.out.1.symm, HGP.out.2.symm⟩, ?_⟩ ?_⟩, hbb, hfr⟩
   ·rcases HV5.out with h | h
    ·exact .inl h.symm
    ·exact .inr ⟨g5, rfl, by rw [h]; exact BEW.size⟩
   ·exact HFI.out.blk (fun b hb => (HK5.out b (by have := HB3.out.size; omega) (fun e => by have := (hne2 b e).1; omega)).trans (HB3.out.block b (by omega)))
   ·refine OwC.ofBox jbh (by rw [HV.out, List.length_append, List.length_replicate, HAR.out]; omega) ((HK5.out gz HZ3.out (fun e => by have := (hne2 gz e).2; omega)).trans HX3.out) (by omega) (by omega)
   ·intro g hg
    have e : some gz = some g := hg
    injection e with e
    omega
  exact AllTil.nil
 exact AllTil.nil
end Go.Proofs.YthbnbaikdcfbmaaGreatDoor
