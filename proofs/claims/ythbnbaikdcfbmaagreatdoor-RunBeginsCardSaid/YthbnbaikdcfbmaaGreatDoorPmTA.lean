/- Texts of several names, of which only what the statement needs is kept. -/
import Derived.Test.YthbnbaikdcfbmaaGreatDoorPmMD
import Derived.StillTailTactics
set_option linter.unusedSimpArgs false
set_option linter.unusedVariables false
set_option maxHeartbeats 1000000
set_option maxRecDepth 100000
namespace Go.Proofs.YthbnbaikdcfbmaaGreatDoor
open Go.RowKit
theorem jqe (va vb : Value) (xs ys : List Int) (w : World) (B : Nat) (hx : IntsV w (· < B) va xs) (hy : IntsV w (· < B) vb ys) :
  Calls Tryz.prog 19 #[va, vb] w fun e w' => e = .returned (.bool (decide (xs = ys))) /\ ∃ q, w' = w.drewN q := by
 obtain ⟨A, c, rfl, h1, h2, h3, -⟩ := hx.sl
 obtain ⟨A', c', rfl, h1', h2', h3', -⟩ := hy.sl
 exact ints_any A A' _ _ c c' xs ys w B B h3 h3' rfl rfl (by omega) (by omega)
theorem ji2 {op : Int} (h : ∀ j : Nat, 1 <= j -> j <= 23 -> op ≠ j) : jae op = [] := by
 unfold jae
 split
 ·rfl
 ·by_cases hj : op.toNat < 24
  ·have h0 : op.toNat = 0 := by
    have := h op.toNat
    omega
   rw [h0]; rfl
  ·rw [List.getD, List.getElem?_eq_none (show partsT.length <= op.toNat by show 24 <= _; omega)]; rfl
theorem jhw (op : Int) (w : World) :
  Calls Tryz.prog 70 #[.int .i64 op] w fun e w' => e = .returned (.string (jaf (jae op))) /\ w = w' := by
 by_cases hin : 1 <= op /\ op <= 23
 ·obtain ⟨h1, h2⟩ := hin
  obtain ⟨j, rfl⟩ : ∃ j : Nat, op = j := ⟨op.toNat, by omega⟩
  have hj : j = 1 \/ j = 2 \/ j = 3 \/ j = 4 \/ j = 5 \/ j = 6 \/ j = 7 \/ j = 8 \/ j = 9 \/ j = 10 \/ j = 11 \/ j = 12 \/ j = 13 \/ j = 14 \/ j = 15 \/ j = 16 \/ j = 17 \/ j = 18 \/ j = 19 \/ j = 20 \/ j = 21 \/ j = 22 \/ j = 23 := by omega
  clear h1 h2
  rcases hj with rfl | rfl | rfl | rfl | rfl | rfl | rfl | rfl | rfl | rfl | rfl | rfl | rfl | rfl | rfl | rfl | rfl | rfl | rfl | rfl | rfl | rfl | rfl
  all_goals
   go_enter Tryz.func70, Tryz.ntmps70
   go_wp2
   go_ret
   exact ⟨rfl, rfl⟩
 ·have he := hide (show jaf (jae op) = ⟨#[]⟩ by rw [ji2 (fun j h1 h2 h => hin (by omega))]; rfl)
  have g : ∀ j : Int, 1 <= j -> j <= 23 -> (op == j) = false := fun j h1 h2 => by simp; omega
  have g1 := g 1 (by omega) (by omega); have g2 := g 2 (by omega) (by omega); have g3 := g 3 (by omega) (by omega); have g4 := g 4 (by omega) (by omega)
  have g5 := g 5 (by omega) (by omega); have g6 := g 6 (by omega) (by omega); have g7 := g 7 (by omega) (by omega); have g8 := g 8 (by omega) (by omega)
  have g9 := g 9 (by omega) (by omega); have g10 := g 10 (by omega) (by omega); have g11 := g 11 (by omega) (by omega); have g12 := g 12 (by omega) (by omega)
  have g13 := g 13 (by omega) (by omega); have g14 := g 14 (by omega) (by omega); have g15 := g 15 (by omega) (by omega); have g16 := g 16 (by omega) (by omega)
  have g17 := g 17 (by omega) (by omega); have g18 := g 18 (by omega) (by omega); have g19 := g 19 (by omega) (by omega); have g20 := g 20 (by omega) (by omega)
  have g21 := g 21 (by omega) (by omega); have g22 := g 22 (by omega) (by omega); have g23 := g 23 (by omega) (by omega)
  clear g hin
  go_enter Tryz.func70, Tryz.ntmps70
  go_wp2
  go_ret
  exact ⟨jip he.out.symm, rfl⟩
theorem inB_iff {lo hi n : Int} : inB lo hi n = true ↔ lo <= n /\ n <= hi := by unfold inB; simp
theorem jal {p : List FunV} (h : jad p = true) : 1 <= p.length /\ p.length <= 8 /\ jfu p = true /\ ∀ f ∈ p, jco p f = true := by
 unfold jad at h
 simp only [Bool.and_eq_true, List.all_eq_true, inB_iff] at h
 exact ⟨by omega, by omega, h.2.1, h.2.2⟩
theorem jah {p : List FunV} {f : FunV} (h : jco p f = true) : (f.base.length = f.kinds.length /\ f.kinds.length <= 48 /\ ∀ kb ∈ f.kinds.zip f.base, jdd f.kinds kb.1 kb.2 = true) /\ (0 <= f.params /\ f.params <= 4 /\ f.params <= f.kinds.length) /\ valB f.result = true /\
  (1 <= f.blocks.length /\ f.blocks.length <= 40 /\ ∀ b ∈ f.blocks, 1 <= b.length /\ b.length <= 40 /\ jdl b = true) /\ ∀ b ∈ f.blocks, ∀ x ∈ b, jcf p f x = true := by
 unfold jco jd9 jgf jdh jdm jbw at h
 simp only [Bool.and_eq_true, List.all_eq_true, inB_iff, decide_eq_true_eq] at h
 obtain ⟨⟨⟨⟨h1, h2⟩, h3⟩, ⟨h4, -⟩, h5, h6, h7⟩, h8⟩ := h
 exact ⟨⟨h1, h2, h3⟩, ⟨by omega, by omega, by omega⟩, h5, ⟨by omega, by omega, fun b hb => ⟨by have := (h7 b hb).1; omega, by have := (h7 b hb).1; omega, (h7 b hb).2⟩⟩, h8⟩
theorem jcm {p : List FunV} {f : FunV} {x : InsV} (h : jcf p f x = true) : jae x.op ≠ [] /\ jdw x = true /\ (ja9 x.op 68 = true -> jbt f x.d = true) /\ (∀ v ∈ jas x, jbt f v = true) /\ jc9 p f x = true := by
 unfold jcf jel at h
 simp only [Bool.and_eq_true, List.all_eq_true, Bool.or_eq_true, Bool.not_eq_true'] at h
 obtain ⟨h1, h2, ⟨h3, h4⟩, h5⟩ := h
 refine ⟨(fun h0 => by rw [h0] at h1; cases h1), h2, fun hd => ?_, h4, h5⟩
 rcases h3 with h3 | h3
 ·rw [h3] at hd; cases hd
 ·exact h3
theorem jc6 {f : FunV} {v : Int} (h : jbt f v = true) : 0 <= v /\ v < f.kinds.length := by
 unfold jbt at h; rw [inB_iff] at h; omega
theorem jea {f : FunV} {v : Int} (h : jcg f v = true) : 1 <= v /\ v < f.blocks.length := by
 unfold jcg at h; rw [inB_iff] at h; omega
theorem jiv {op : Int} (h : jae op ≠ []) : 1 <= op /\ op <= 23 := by
 apply Classical.byContradiction
 intro hn
 exact h (ji2 (fun j h1 h2 hj => hn (by omega)))
theorem jmq {p : List FunV} (hp : ∀ f ∈ p, jco p f = true) {g a : Int} (h : jbk p g a = true) : 0 <= g /\ a <= 4 := by
 unfold jbk at h
 simp only [Bool.and_eq_true, inB_iff, decide_eq_true_eq] at h
 obtain ⟨⟨h1, h2⟩, h3⟩ := h
 refine ⟨h1, ?_⟩
 cases hf : p[g.toNat]? with
 | none => rw [hf] at h3; cases h3
 | some f =>
  rw [hf] at h3
  simp at h3
  have := (jah (hp f (List.mem_of_getElem? hf))).2.1
  omega
theorem next_blk {p : List FunV} {f : FunV} {x : InsV} (h : jcf p f x = true) : ∀ v ∈ jau x, 1 <= v /\ v < f.blocks.length := by
 obtain ⟨-, -, -, -, hn⟩ := jcm h
 unfold jc9 at hn
 unfold jau
 intro v hv
 by_cases h21 : x.op = 21
 ·simp [h21] at hn hv
  subst hv
  exact jea hn
 ·by_cases h22 : x.op = 22
  ·simp [h22] at hn hv
   have h1 := jea hn.1
   have h2 := jea hn.2
   split at hv
   ·simp at hv; subst hv; exact h1
   ·simp at hv; omega
  ·simp [h21, h22] at hv
theorem ja6 (n lo hi : Int) (w : World) : Calls Tryz.prog 45 #[.int .i64 n, .int .i64 lo, .int .i64 hi] w fun e w' => e = .returned (.bool (inB lo hi n)) /\ w = w' := by
 unfold inB
 by_cases h : lo <= n
 ·have hd : decide (lo <= n) = true := by simpa using h
  rw [hd]
  go_enter Tryz.func45, Tryz.ntmps45
  go_wp2
  go_ret
  exact ⟨by simp, rfl⟩
 ·have hd : decide (lo <= n) = false := by simpa using h
  rw [hd]
  go_enter Tryz.func45, Tryz.ntmps45
  go_wp2
  go_ret
  exact ⟨by simp, rfl⟩
theorem jr9 (op : Int) (w : World) : Calls Tryz.prog 69 #[.int .i64 op] w fun e w' => e = .returned (.bool (jcb op)) /\ w = w' := by
 unfold jcb
 go_enter Tryz.func69, Tryz.ntmps69
 go_wp2
 all_goals
  go_ret
  exact ⟨by simp_all [Bool.or_assoc], rfl⟩
theorem jbu (op : Int) (c : Nat) (w : World) : Calls Tryz.prog 56 #[.int .i64 op, .int .u8 (c : Int)] w fun e w' => e = .returned (.bool (ja9 op c)) /\ w = w' := by
 unfold ja9
 have hl := jdg op
 have hlen := ji3 op
 have hP := fun W => jhw op W
 generalize jae op = l at *
 obtain ⟨s, hs⟩ := zl (jaf l)
 have hz : s.size = l.length := by rw [<- hs, jd4]
 have hg : ∀ (k d : Nat), l[k]? = some d -> ∀ hk : k < s.size, (s[k]'hk).toNat = d := fun k d hd hk => by subst hs; exact jgj hl hd hk
 rw [hs] at hP
 have HP := hide hP
 have HG := hide hg
 have HZ := hide hz
 have hmx : s.size <= 100 := by omega
 clear hg hz hs hP hl hlen
 go_enter Tryz.func56, Tryz.ntmps56
 go_wp2_with (go_at_call 70; refine (HP.out _).mono ?_; rintro e w' ⟨rfl, rfl⟩)
 go_loop [6] (fun i => ∃ k : Nat, k <= s.size /\ i = .int .i64 k /\ Hid (c ∉ l.take k)) (fun i => s.size - (intOf i).toNat)
 case atStart => exact ⟨0, Nat.zero_le _, rfl, hide (by simp)⟩
 case round =>
  obtain ⟨k, hk, rfl, hno⟩ := hrel
  by_cases hlt : k < s.size
  ·obtain ⟨d, hd⟩ : ∃ d, l[k]? = some d := ⟨_, List.getElem?_eq_getElem (by have := HZ.out; omega)⟩
   have e := HG.out k d hd hlt
   have HD := hide hd
   clear hd
   by_cases hcd : d = c
   ·subst hcd
    have hv := hide (decide_eq_true (show d ∈ l from List.mem_of_getElem? HD.out))
    go_wp2
    go_ret
    exact ⟨ja1 hv.out.symm, rfl⟩
   ·have hne : ((d : Int) == (c : Int)) = false := by simp; omega
    have hn := hide (show c ∉ l.take (k + 1) by
     rw [List.take_add_one, HD.out]
     intro hm
     rcases List.mem_append.1 hm with h | h
     ·exact hno.out h
     ·simp at h; exact hcd h.symm)
    clear hcd
    go_wp2
    go_round
    case rel => exact ⟨k + 1, by omega, by go_num, hn⟩
    case measure => simp [intOf]; omega
  ·have hv := hide (decide_eq_false (show ¬ c ∈ l from fun h => hno.out (by rw [List.take_of_length_le (by have := HZ.out; omega)]; exact h)))
   go_wp2
   go_ret
   exact ⟨ja1 hv.out.symm, rfl⟩
theorem jgm (x : InsV) (A : Option Addr) (n c : Nat) (w : World) :
  Calls Tryz.prog 57 #[.agg #[.int .i64 x.op, .int .i64 x.d, .int .i64 x.a, .int .i64 x.b, .int .i64 x.n, .int .i64 x.m, .slice A n c]] w fun e w' => e = .returned (.tuple #[.int .i64 (if ja9 x.op 68 = true then x.d else 0), .bool (ja9 x.op 68)]) /\ Below w.heap.size w w' := by
 have H : ∀ W, Calls Tryz.prog 56 #[.int .i64 x.op, .int .u8 68] W fun e w' => e = .returned (.bool (ja9 x.op 68)) /\ W = w' := fun W => jbu x.op 68 W
 have HH := hide H
 clear H
 generalize ja9 x.op 68 = b at *
 cases b with
 | false =>
  go_enter Tryz.func57, Tryz.ntmps57
  go_wp2_with (go_at_call 56; refine (HH.out _).mono ?_; rintro e w' ⟨rfl, rfl⟩)
  go_ret2
  exact ⟨rfl, ja4 w _⟩
 | true =>
  go_enter Tryz.func57, Tryz.ntmps57
  go_wp2_with (go_at_call 56; refine (HH.out _).mono ?_; rintro e w' ⟨rfl, rfl⟩)
  go_ret2
  exact ⟨rfl, ja4 w _⟩
theorem jqz (x : InsV) (A : Option Addr) (n c : Nat) (w : World) :
  Calls Tryz.prog 72 #[.agg #[.int .i64 x.op, .int .i64 x.d, .int .i64 x.a, .int .i64 x.b, .int .i64 x.n, .int .i64 x.m, .slice A n c]] w fun e w' => ∃ A' c', e = .returned (.slice A' (jau x).length c') /\ Sl w' w'.heap.size .i64 A' (jau x) /\ (jau x).length <= c' /\ c' <= 2 /\ Below w.heap.size w w' := by
 by_cases h21 : x.op = 21
 ·have hv := hide (show jau x = [x.n] by unfold jau; rw [if_pos (.inl h21)])
  rw [h21]
  clear h21
  go_enter Tryz.func72, Tryz.ntmps72
  go_wp2
  go_ret
  refine ⟨some ⟨w.heap.size + 1, 0, none⟩, 1, by rw [hv.out]; rfl, ?_, by rw [hv.out]; exact Nat.le_refl _, by omega, (ja4 w _).alloc (by simp) _⟩
  rw [hv.out]
  have h := fun o => Sl.lit (w.alloc o) 3 .i64 #[.int .i64 x.n] [x.n] rfl
  simp only [World.size_alloc] at h
  exact (h _).more (by simp only [World.size_alloc]; omega)
 ·have b21 : (x.op == 21) = false := by simpa using h21
  by_cases h22 : x.op = 22
  ·by_cases hnm : x.n = x.m
   ·have hv := hide (show jau x = [x.n] by unfold jau; rw [if_pos (.inr ⟨h22, hnm⟩)])
    rw [h22] at b21 ⊢
    rw [<- hnm]
    clear h22 h21 hnm
    go_enter Tryz.func72, Tryz.ntmps72
    go_wp2
    go_ret
    refine ⟨some ⟨w.heap.size + 1, 0, none⟩, 1, by rw [hv.out]; rfl, ?_, by rw [hv.out]; exact Nat.le_refl _, by omega, (ja4 w _).alloc (by simp) _⟩
    rw [hv.out]
    have h := fun o => Sl.lit (w.alloc o) 3 .i64 #[.int .i64 x.n] [x.n] rfl
    simp only [World.size_alloc] at h
    exact (h _).more (by simp only [World.size_alloc]; omega)
   ·have hv := hide (show jau x = [min x.n x.m, max x.n x.m] by unfold jau; rw [if_neg (by omega), if_pos h22])
    have bnm : (x.n == x.m) = false := by simpa using hnm
    rw [h22] at b21 ⊢
    clear h22 h21 hnm
    go_enter Tryz.func72, Tryz.ntmps72
    go_wp2
    go_ret
    refine ⟨some ⟨w.heap.size + 1, 0, none⟩, 2, by rw [hv.out]; rfl, ?_, by rw [hv.out]; exact Nat.le_refl _, by omega, (ja4 w _).alloc (by simp) _⟩
    rw [hv.out]
    have h := fun o => Sl.lit (w.alloc o) 3 .i64 #[.int .i64 (min x.n x.m), .int .i64 (max x.n x.m)] [min x.n x.m, max x.n x.m] rfl
    simp only [World.size_alloc] at h
    exact (h _).more (by simp only [World.size_alloc]; omega)
  ·have hv := hide (show jau x = [] by unfold jau; rw [if_neg (by omega), if_neg h22])
   have b22 : (x.op == 22) = false := by simpa using h22
   clear h22 h21
   go_enter Tryz.func72, Tryz.ntmps72
   go_wp2
   go_ret
   exact ⟨none, 0, by rw [hv.out]; rfl, by rw [hv.out]; exact Sl.nil _ _ _ _, by rw [hv.out]; exact Nat.le_refl _, by omega, ja4 w _⟩
section
variable {P : Program} (w : World)
theorem jd2 {ops : Array Oper} {rest : List Oper} {o : Oper} {a : Act} {Q : Exit -> Act -> World -> Prop} (hgd : o.guard = none) (s x : Operand) (t : TypeId)
  (ho : o.op = .call { callee := .builtin .append, args := #[s, x], argTypes := #[t, t] })
  (base : Nat) (e : TypeId) (k : IntKind) (i : TypeInfo) (z : Value) (bytes : Nat) (ht : P.underlying t = some (.slice e)) (hi : P.info? e = some i) (hz : i.zero = some z)
  (hsize : i.size = 1) (hby : i.bytes = bytes) (hzs : z.cells.size = 1) (hb8 : bytes <= 8)
  (v : Value) (zs : List Int) (hs : a.eval s = v) (hown : Ow w base e k v zs)
  (B : Nat) (A : Option Addr) (m c : Nat) (news : List Int) (hx : a.eval x = .slice A m c) (hm : news.length = m) (hr : Sl w B k A news)
  (hroom : zs.length + m <= 17592186044416) (hbase : base <= w.heap.size)
  (h : ∀ v' w', Ow w' base e k v' (zs ++ news) -> Below base w w' -> wpList P ops Q rest (a.put o.dst v') w') : wpList P ops Q (o :: rest) a w := by
 subst hm
 refine wpList_plain hgd fun K hK => ?_
 have key : ∃ v' w', (Builtin.append_ #[t, t] o.type #[v, .slice A news.length c]).run P w = .ok v' w' /\ Ow w' base e k v' (zs ++ news) /\ Below base w w' := by
  by_cases h0 : news = []
  ·subst h0
   refine ⟨v, w, ?_, by simpa using hown, Below.refl _ _⟩
   rcases hown.2 with ⟨rfl, _⟩ | ⟨g, cap, cur, rfl, _, _, hnc, _⟩
   ·cases A <;> simp [Builtin.append_, run_underlying ht, sizeOf, typeInfo, hi, Builtin.lenOf, Builtin.firstCells, loadCells, loadCellsFrom]
   ·cases A <;> simp [Builtin.append_, run_underlying ht, sizeOf, typeInfo, hi, Builtin.lenOf, Builtin.firstCells, hnc, storeCells, loadCells, loadCellsFrom]
    all_goals simp [List.length_map] at hnc
    all_goals first | omega | (simp [storeCells])
  ·obtain ⟨b, off, rfl, _, hc⟩ := hr (List.length_pos_iff.2 h0)
   obtain ⟨v', w', hrun, h2, h3, _⟩ := run_append_own (P := P) w base t o.type e i z 1 bytes ht hi hz hsize hby hzs (by omega) v zs.length (zs.map (Value.int k)) hown ⟨b, off, none⟩ news.length c (news.map (Value.int k)) (by simp)
    (fun j u hu => by
     have hj : j < news.length := by have := (List.getElem?_eq_some_iff.1 hu).1; simpa using this
     rw [Addr.add_lit, hc j hj]
     rw [<- hu]
     simp [List.getD, hj]) (jnh k news) (by simp only [maxLen]; omega)
    (by have : (zs.length + news.length) * bytes <= 17592186044416 * 8 := Nat.mul_le_mul hroom hb8; omega) hbase
   refine ⟨v', w', hrun, by unfold Ow; simpa using h2, (Below.refl _ _).grown h3 hbase fun g hg => (World.ownsRow.lt hown g hg).1⟩
 obtain ⟨v', w', hrun, h2, h3⟩ := key
 unfold Oper.wp execOp
 simp only [ho, resolve, invoke, builtin, Sem.run_bind, Sem.run_pure, Result.andThen_ok, List.map_toArray, List.map_cons, List.map_nil, hs, hx, hrun]
 exact hK _ _ (h v' w' h2 h3)
theorem jbo {ops : Array Oper} {rest : List Oper} {o : Oper} {a : Act} {Q : Exit -> Act -> World -> Prop} (hgd : o.guard = none) (s x : Operand) (t : TypeId)
  (ho : o.op = .call { callee := .builtin .append, args := #[s, x], argTypes := #[t, t] })
  (base : Nat) (e : TypeId) (k : IntKind) (i : TypeInfo) (z : Value) (bytes : Nat) (ht : P.underlying t = some (.slice e)) (hi : P.info? e = some i) (hz : i.zero = some z)
  (hsize : i.size = 1) (hby : i.bytes = bytes) (hzs : z.cells.size = 1) (hb8 : bytes <= 8)
  (v : Value) (zs : List Int) (hs : a.eval s = v) (hown : Ow w base e k v zs) (y : Int)
  (hx : a.eval x = .slice (some ⟨w.heap.size, 0, none⟩) 1 1)
  (hroom : zs.length < 17592186044416) (hbase : base <= w.heap.size)
  (h : ∀ v' w', Ow w' base e k v' (zs ++ [y]) -> Below base w w' -> wpList P ops Q rest (a.put o.dst v') w') : wpList P ops Q (o :: rest) a (w.alloc (.cells #[.int k y] e)) :=
 jd2 (w.alloc (.cells #[.int k y] e)) hgd s x t ho base e k i z bytes ht hi hz hsize hby hzs hb8 v zs hs (hown.alloc _) (w.heap.size + 1) (some ⟨w.heap.size, 0, none⟩) 1 1 [y] hx rfl
  (fun _ => ⟨w.heap.size, 0, rfl, by omega, fun j hj => by
   have : j = 0 := by simpa using hj
   subst this
   simp⟩) (by omega) (by simp; omega) (fun v' w' h1 h2 => h v' w' h1 (((Below.refl _ _).alloc hbase _).trans h2))
end
theorem jjm (x : InsV) (va : Value) (w : World) (B : Nat) (hB : B <= w.heap.size) (hx : InsI w (· < B) va x) (hlen : x.args.length <= 17592186044000) :
  Calls Tryz.prog 31 #[.agg #[.int .i64 x.op, .int .i64 x.d, .int .i64 x.a, .int .i64 x.b, .int .i64 x.n, .int .i64 x.m, va]] w fun e w' => ∃ v, e = .returned v /\ Ow w' w.heap.size 3 .i64 v (jas x) /\ Below w.heap.size w w' := by
 obtain ⟨i0, hi0, iz0, iz1, iz2⟩ := info_parts jc5
 have HI := hide hi0
 clear hi0
 have hA : ∀ W, Calls Tryz.prog 56 #[.int .i64 x.op, .int .u8 65] W fun e w' => e = .returned (.bool (ja9 x.op 65)) /\ W = w' := fun W => jbu x.op 65 W
 have hBb : ∀ W, Calls Tryz.prog 56 #[.int .i64 x.op, .int .u8 66] W fun e w' => e = .returned (.bool (ja9 x.op 66)) /\ W = w' := fun W => jbu x.op 66 W
 have hL : ∀ W, Calls Tryz.prog 56 #[.int .i64 x.op, .int .u8 76] W fun e w' => e = .returned (.bool (ja9 x.op 76)) /\ W = w' := fun W => jbu x.op 76 W
 obtain ⟨A, c, rfl, hc, hm, hsl, -⟩ := hx.1.sl
 have HSL := hide (hsl.more hB)
 have HSLB := hide hsl
 unfold jas
 generalize ja9 x.op 65 = b1 at *
 generalize ja9 x.op 66 = b2 at *
 generalize ja9 x.op 76 = b3 at *
 obtain ⟨zs, hzs⟩ := zl x.args
 rw [hzs] at hc HSL HSLB hlen ⊢
 obtain ⟨la, hla⟩ := zl zs.length
 rw [hla] at hc hlen ⊢
 have HLA := hide hla
 generalize x.op = xop, x.d = xd, x.a = xa, x.b = xb, x.n = xn, x.m = xm at *
 have HA := hide hA; have HBb := hide hBb; have HL := hide hL
 clear hA hBb hL hx hsl hzs hla
 cases b1 <;> cases b2 <;> cases b3
 all_goals
  go_enter Tryz.func31, Tryz.ntmps31
  go_upto_region 2 with (fail)
  obtain ⟨w1, hw1⟩ := zr (w.alloc (.cells #[.int .i64 xop, .int .i64 xd, .int .i64 xa, .int .i64 xb, .int .i64 xn, .int .i64 xm, .slice A la c] 57))
  have HBX := zx1 hw1 rfl
  have HB1 := zb1 hw1
  have hl1 := HBX.out.lt
  have x0 := (HBX.out.cell 0 (v := .int .i64 xop) rfl).1
  have x2 := (HBX.out.cell 2 (v := .int .i64 xa) rfl).1
  have x3 := (HBX.out.cell 3 (v := .int .i64 xb) rfl).1
  have x6 := (HBX.out.cell 6 (v := .slice A la c) rfl).1
  rw [<- hw1]
  clear hw1
  have HO1 := hide (Ow.nil w1 w1.heap.size 3 .i64)
  go_wp2_with (first
   | (go_at_call 56; (with_reducible refine (HL.out _).mono ?_); rintro e w' ⟨rfl, rfl⟩)
   | (go_at_call 56; (with_reducible refine (HBb.out _).mono ?_); rintro e w' ⟨rfl, rfl⟩)
   | (go_at_call 56; (with_reducible refine (HA.out _).mono ?_); rintro e w' ⟨rfl, rfl⟩)
   | (at_builtin; refine jd2 _ rfl (.tmp 23) (.tmp 25) _ rfl w1.heap.size 3 .i64 i0 _ 8 Tryz.underlying32 HI.out iz0 iz1 iz2 rfl (by omega) _ _ rfl (by first | exact HO3.out | exact HO2.out | exact HO1.out) w.heap.size A _ c zs rfl HLA.out (by first | exact HSL.out.below HB3.out | exact HSL.out.below HB2.out | exact HSL.out.below HB1.out) (by simp; omega) (by first | exact HC3.out.size | exact HC2.out.size | exact Nat.le_refl _) ?_; intro v4 w4 ho4 hb4; have HO4 := hide ho4; have HB4 : Hid (Below w.heap.size w w4) := (by first | exact HB3.out.trans (hb4.mono (by omega)) | exact HB2.out.trans (hb4.mono (by omega)) | exact HB1.out.trans (hb4.mono (by omega))); clear ho4 hb4)
   | (at_builtin; refine jbo _ rfl (.tmp 15) (.tmp 18) _ rfl w1.heap.size 3 .i64 i0 _ 8 Tryz.underlying32 HI.out iz0 iz1 iz2 rfl (by omega) _ _ rfl (by first | exact HO2.out | exact HO1.out) xb rfl (by simp) (by first | exact HC2.out.size | exact Nat.le_refl _) ?_; intro v3 w3 ho3 hb3; have hx3 : Box w3 w.heap.size #[.int .i64 xop, .int .i64 xd, .int .i64 xa, .int .i64 xb, .int .i64 xn, .int .i64 xm, .slice A la c] 57 := (by first | exact HX2.out.belowB hb3 hl1 | exact HBX.out.belowB hb3 hl1); have HB3 : Hid (Below w.heap.size w w3) := (by first | exact HB2.out.trans (hb3.mono (by omega)) | exact HB1.out.trans (hb3.mono (by omega))); have HC3 : Hid (Below w1.heap.size w1 w3) := (by first | exact HC2.out.trans hb3 | exact hb3); have hl3 := hx3.lt; have z0 := (hx3.cell 0 (v := .int .i64 xop) rfl).1; have z6 := (hx3.cell 6 (v := .slice A la c) rfl).1; have HO3 := hide ho3; clear ho3 hb3 hx3)
   | (at_builtin; refine jbo _ rfl (.tmp 7) (.tmp 10) _ rfl w1.heap.size 3 .i64 i0 _ 8 Tryz.underlying32 HI.out iz0 iz1 iz2 rfl (by omega) _ [] rfl HO1.out xa rfl (by simp) (Nat.le_refl _) ?_; intro v2 w2 ho2 hb2; rw [List.nil_append] at ho2; have hx2 := HBX.out.belowB hb2 hl1; have HB2 := hide (HB1.out.trans (hb2.mono (by omega))); have HC2 := hide hb2; have hl2 := hx2.lt; have y0 := (hx2.cell 0 (v := .int .i64 xop) rfl).1; have y3 := (hx2.cell 3 (v := .int .i64 xb) rfl).1; have y6 := (hx2.cell 6 (v := .slice A la c) rfl).1; have HX2 := hide hx2; have HO2 := hide ho2; clear ho2 hb2 hx2 x0 x2 x3 x6))
  all_goals
   go_ret
   first
    | exact ⟨_, rfl, by simpa using HO4.out.lower (by omega), HB4.out⟩
    | exact ⟨_, rfl, by simpa using HO3.out.lower (by omega), HB3.out⟩
    | exact ⟨_, rfl, by simpa using HO2.out.lower (by omega), HB2.out⟩
    | exact ⟨_, rfl, by simpa using HO1.out.lower (by omega), HB1.out⟩
end Go.Proofs.YthbnbaikdcfbmaaGreatDoor
