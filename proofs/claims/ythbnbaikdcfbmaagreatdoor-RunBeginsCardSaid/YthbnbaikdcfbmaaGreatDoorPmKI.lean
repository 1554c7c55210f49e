/- Layer 8, the program: contracts of Contains, begins, Set, Fresh. Condition: the table of parts reads as listed; the function is one of a .. -/
import Derived.Test.YthbnbaikdcfbmaaGreatDoorPmKH
set_option linter.unusedSimpArgs false
set_option linter.unusedVariables false
set_option maxHeartbeats 8000000
set_option maxRecDepth 100000
namespace Go.Proofs.YthbnbaikdcfbmaaGreatDoor
open Go.RowKit Go.Maps
def IdxE (l : List Int) (z : Int) (w : World) (e : Ending) (w' : World) : Prop := ∃ i : Int, e = .returned (.int .i64 i) /\ decide (0 <= i) = decide (z ∈ l) /\ w = w'
theorem kidx_any (v : Value) (l : List Int) (z : Int) (w : World) (h : QuI w v l) (hl : l.length <= 1000000) :
  Calls Tryz.prog 133 #[v, .int .i64 z] w (IdxE l z w) := by
 obtain ⟨A, c, rfl, hc, hm, hq⟩ := h
 obtain ⟨n, hn⟩ := zl l.length
 have HN := hide hn
 have HQ := hide hq
 rw [hn] at hc hl ⊢
 clear hq hn hm
 go_enter Tryz.func133, Tryz.ntmps133
 go_wp2
 go_loop [8] (fun i => ∃ k : Nat, k <= n /\ i = .int .i64 k /\ Hid (z ∉ l.take k)) (fun i => n - (intOf i).toNat)
 case atStart => exact ⟨0, Nat.zero_le _, rfl, hide (by simp)⟩
 case round =>
  obtain ⟨k, hk, rfl, HT⟩ := hrel
  by_cases hlt : k < n
  case neg =>
   have HNM := hide (show z ∉ l by rw [<- List.take_of_length_le (show l.length <= k by have := HN.out; omega)]; exact HT.out)
   go_wp2
   go_ret
   exact ⟨-1, rfl, by rw [decide_eq_false HNM.out]; rfl, rfl⟩
  obtain ⟨y, hy⟩ : ∃ y, l[k]? = some y := ⟨_, List.getElem?_eq_getElem (by have := HN.out; omega)⟩
  obtain ⟨g, o, rfl, hg, ha, hb⟩ := HQ.out (by omega)
  have e0 := hb k y hy
  have HY := hide hy
  clear ha hb hy
  by_cases he : z = y
  ·have HM := hide (show z ∈ l by rw [he]; exact List.mem_of_getElem? HY.out)
   have q : (z == y) = true := by simpa using he
   clear he
   go_wp2
   go_ret
   exact ⟨k, rfl, by rw [decide_eq_true HM.out, decide_eq_true (by omega)], rfl⟩
  ·have HM := hide (jj2 HT.out HY.out (fun e => he e.symm))
   have q : (z == y) = false := by simpa using he
   clear he
   go_wp2
   go_round
   case rel => exact ⟨k + 1, by omega, by go_num, HM⟩
   case measure => simp [intOf]; omega
theorem jku (v : Value) (l : List Int) (z : Int) (w : World) (h : QuI w v l) (hl : l.length <= 1000000) :
  Calls Tryz.prog 104 #[v, .int .i64 z] w fun e w' => e = .returned (.bool (decide (z ∈ l))) /\ w = w' := by
 have HI := hide (kidx_any v l z w h hl)
 obtain ⟨A, c, rfl, -⟩ := h
 go_enter Tryz.func104, Tryz.ntmps104
 go_wp2_with (go_at_call 133; (with_reducible refine HI.out.mono ?_); rintro e w' ⟨i, rfl, hd, rfl⟩)
 go_ret
 exact ⟨rfl, rfl⟩
def MU (bm : Nat) (v : Value) (k : Nat) : Prop := k = bm \/ v.ownBlock = some k
def BgR (w1 : World) (f : FunV) (bm : Nat) (k : Nat) (v : Value) (wr : World) : Prop :=
 ∃ L due, 2 * potK f L + due.length = k /\ k <= 20000 /\ BI f L due /\ MapK wr (MU bm v) bm f L /\ QuI wr v (nI due) /\ v.ownBlock ≠ some bm /\ (∀ g, v.ownBlock = some g -> w1.heap.size <= g /\ g < wr.heap.size) /\ bm < wr.heap.size /\ Below w1.heap.size w1 wr
def BgE (w : World) (f : FunV) (e : Ending) (w' : World) : Prop := ∃ bm L, e = .returned (.map (some bm)) /\ MapK w' (fun k => k = bm) bm f L /\ BI f L [] /\ w.heap.size <= bm /\ bm < w'.heap.size /\ Below w.heap.size w w'
theorem BI.due_lt {f : FunV} {L : Nat -> Option KSt} {due : List Nat} (h : BI f L due) {b : Nat} (hb : b ∈ due) : b < f.blocks.length := by
 obtain ⟨s, hs⟩ := h.dues b hb
 exact (h.ok b s hs).1
theorem jr7 {f : FunV} (hk : KOk f) (w1 : World) : MapK (w1.alloc (.map #[] 0)) (fun k => k = w1.heap.size) w1.heap.size f (fun _ => none) :=
 ⟨.map [], 0, World.ownsMap_made _ _ _ _, by have := jqm hk (fun _ => none); omega, fun kl h => (by cases h), fun k hk => rfl, fun k hk => rfl, fun k s h => (by cases h)⟩
theorem jqk {f : FunV} (hk : KOk f) (s : KSt) : potK f (updK (fun _ => none) 0 s) < potK f (fun _ => none) := jm5 (L := fun _ => none) hk.one (by have := jis f s; simp only [potS] at this ⊢; omega)
theorem nI_nil : nI [] = [] := rfl
theorem mem_nI {l : List Nat} {c : Nat} : (c : Int) ∈ nI l ↔ c ∈ l := by
 unfold nI
 rw [List.mem_map]
 exact ⟨fun ⟨n, h, e⟩ => by have : n = c := by omega
                            exact this ▸ h, fun h => ⟨c, h, rfl⟩⟩
structure Wk (w1 wr : World) (bm H8 : Nat) (v : Value) (f : FunV) (L : Nat -> Option KSt) (due : List Nat) (r1 r2 : Value) (o : KSt) (An : Option Addr) (nx : List Int) : Prop where
 map : MapK wr (MU bm v) bm f L
 que : QuI wr v (nI due)
 vb : v.ownBlock ≠ some bm
 vH : v.ownBlock ≠ some H8
 vg : ∀ g, v.ownBlock = some g -> w1.heap.size <= g /\ g < wr.heap.size
 bl : bm < wr.heap.size
 hb : H8 ≠ bm
 w : Below w1.heap.size w1 wr
 box : Box wr H8 #[r1, r2] 119
 s1 : SetM wr (MU bm v) r1 o.1
 s2 : SetM wr (MU bm v) r2 o.2
 sl : Sl wr wr.heap.size .i64 An nx
 sa : ∀ b o, An = some ⟨b, o, none⟩ -> 0 < nx.length -> ¬ MU bm v b
section
variable {w1 wr w' : World} {bm H8 : Nat} {v v' : Value} {f : FunV} {L L' : Nat -> Option KSt} {due due' : List Nat} {r1 r2 : Value} {o : KSt} {An : Option Addr} {nx : List Int}
theorem Wk.slk (h : Wk w1 wr bm H8 v f L due r1 r2 o An nx) (hz : wr.heap.size <= w'.heap.size) (hk : ∀ k, k < wr.heap.size -> ¬ MU bm v k -> w'.heap[k]? = wr.heap[k]?) : Sl w' w'.heap.size .i64 An nx := fun hp => by
 obtain ⟨b, o, e, hb, hc⟩ := h.sl hp
 exact ⟨b, o, e, by omega, fun j hj => (World.cell?_of_block (a := ⟨b, o + j, none⟩) (hk b hb (h.sa b o e hp))).trans (hc j hj)⟩
theorem Wk.come (h : Wk w1 wr bm H8 v f L due r1 r2 o An nx) (hb : But bm wr w') (hw1 : w1.heap.size <= bm) (hm : MapK w' (MU bm v) bm f L') : Wk w1 w' bm H8 v f L' due r1 r2 o An nx where
 map := hm
 que := h.que.keep hb.size (fun g hg => hb.block g (h.vg g hg).2 (fun e => h.vb (e ▸ hg)))
 vb := h.vb
 vH := h.vH
 vg := fun g hg => ⟨(h.vg g hg).1, Nat.lt_of_lt_of_le (h.vg g hg).2 hb.size⟩
 bl := Nat.lt_of_lt_of_le h.bl hb.size
 hb := h.hb
 w := hb.below h.w hw1 h.w.size
 box := hb.box h.box h.hb
 s1 := h.s1.keep hb.size (fun k hk hm => hb.block k hk (fun e => hm (.inl e))) (fun _ _ h => h)
 s2 := h.s2.keep hb.size (fun k hk hm => hb.block k hk (fun e => hm (.inl e))) (fun _ _ h => h)
 sl := h.slk hb.size (fun k hk hm => hb.block k hk (fun e => hm (.inl e)))
 sa := h.sa
theorem Wk.app (h : Wk w1 wr bm H8 v f L due r1 r2 o An nx) (ob : Obj) (hg : (wr.alloc ob).grownBy w' v.ownBlock) (hq : QuI w' v' (nI due')) (hv : v'.ownBlock = v.ownBlock \/ v'.ownBlock = some (wr.alloc ob).heap.size) (hw1 : w1.heap.size <= bm) (hpos : 0 < (nI due').length) : Wk w1 w' bm H8 v' f L due' r1 r2 o An nx := by
 have hlt' : ∀ k, v'.ownBlock = some k -> k < w'.heap.size := fun k hm => by
  obtain ⟨A, c, rfl, h1, -, h3⟩ := hq
  obtain ⟨g, o', rfl, hg', -⟩ := h3 (by omega)
  have e : g = k := by simpa [Value.ownBlock] using hm
  omega
 have hz : wr.heap.size + 1 <= w'.heap.size := by have := hg.size; simpa using this
 have hk : ∀ k, k < wr.heap.size -> v.ownBlock ≠ some k -> w'.heap[k]? = wr.heap[k]? := fun k hk hn => (hg.block k (by simp; omega) (fun e => hn e.symm)).trans ((ja4 wr ob).block k hk)
 have hkm : ∀ k, k < wr.heap.size -> ¬ MU bm v k -> w'.heap[k]? = wr.heap[k]? := fun k hlt hm => hk k hlt (fun e => hm (.inr e))
 have hM : ∀ k, k < wr.heap.size -> MU bm v' k -> MU bm v k := fun k hlt hm => by
  rcases hm with hm | hm
  ·exact .inl hm
  ·rcases hv with hv | hv
   ·exact .inr (hv ▸ hm)
   ·rw [hv] at hm
    injection hm with hm
    simp at hm
    omega
 have hnew : ∀ k, v'.ownBlock = some k -> v.ownBlock = some k \/ (wr.heap.size < k /\ k < w'.heap.size) := fun k hm => by
  have hm' := hm
  rcases hv with hv | hv
  ·exact .inl (hv ▸ hm)
  ·rw [hv] at hm
   injection hm with hm
   simp at hm
   exact .inr ⟨by omega, hlt' k hm'⟩
 exact {
  map := h.map.keep (by omega) (hk bm h.bl h.vb) hkm hM
  que := hq
  vb := fun e => by
   rcases hnew _ e with e | e
   ·exact h.vb e
   ·have := h.bl; omega
  vH := fun e => by
   rcases hnew _ e with e | e
   ·exact h.vH e
   ·have := h.box.lt; omega
  vg := fun g e => by
   rcases hnew g e with e | e
   ·have h1 := (h.vg g e).1
    have h2 := (h.vg g e).2
    exact ⟨h1, by omega⟩
   ·have h1 := h.w.size
    exact ⟨by omega, by omega⟩
  bl := by have := h.bl; omega
  hb := h.hb
  w := ⟨(hg.os).trans h.w.os, (hg.tape).trans h.w.tape, (hg.output).trans h.w.output, by have := h.w.size; omega, fun k hlt => (hk k (by have := h.w.size; omega) (fun e => by have := (h.vg k e).1; omega)).trans (h.w.block k hlt)⟩
  box := (hk H8 h.box.lt h.vH).trans h.box
  s1 := h.s1.keep (by omega) hkm hM
  s2 := h.s2.keep (by omega) hkm hM
  sl := h.slk (by omega) hkm
  sa := fun b o e hp hm => h.sa b o e hp (hM b (by obtain ⟨b', o', e', hb', -⟩ := h.sl hp; rw [e] at e'; cases e'; exact hb') hm) }
theorem Wk.start {w8 w9 wo : World} {M9 : Nat -> Prop} {g : Nat} (hmap : MapK wo M9 bm f L) (hob : ∀ k, M9 k ↔ (k = bm \/ k = g)) (hq : QuI wo v (nI due)) (hqo : v.ownBlock = some g) (hgbm : g ≠ bm) (hgl : g < wo.heap.size) (hbl : bm < wo.heap.size) (hgg : w1.heap.size <= g) (hbw : Below w1.heap.size w1 wo)
  (hb8 : Below wo.heap.size wo w8) (hb9 : Below w8.heap.size w8 w9) (hx : Box w8 H8 #[r1, r2] 119) (hH : wo.heap.size <= H8) (s1 : SetM w8 M9 r1 o.1) (s2 : SetM w8 M9 r2 o.2) (sl : Sl w9 w9.heap.size .i64 An nx) (san : ∀ b o, An = some ⟨b, o, none⟩ -> w8.heap.size <= b) : Wk w1 w9 bm H8 v f L due r1 r2 o An nx := by
 have z8 := hb8.size
 have z9 := hb9.size
 have hm : ∀ k, MU bm v k -> M9 k := fun k hk => (hob k).2 (by
  rcases hk with hk | hk
  ·exact .inl hk
  ·rw [hqo] at hk
   injection hk with hk
   exact .inr hk.symm)
 have hown : ∀ k, v.ownBlock = some k -> k = g := fun k hk => by
  rw [hqo] at hk
  injection hk with hk
  exact hk.symm
 exact {
  map := hmap.keep (by omega) ((hb9.block bm (by omega)).trans (hb8.block bm hbl)) (fun k hk _ => (hb9.block k (by omega)).trans (hb8.block k hk)) (fun k _ h => hm k h)
  que := hq.keep (by omega) (fun k hk => by rw [hown k hk]; exact (hb9.block g (by omega)).trans (hb8.block g hgl))
  vb := fun e => hgbm (hown _ e).symm
  vH := fun e => by have := hown _ e; omega
  vg := fun k hk => by have := hown _ hk; subst this; exact ⟨hgg, by omega⟩
  bl := by omega
  hb := by omega
  w := (hbw.trans (hb8.mono hbw.size)).trans (hb9.mono (by have := hbw.size; omega))
  box := hx.below hb9
  s1 := s1.keep hb9.size (fun k hk _ => hb9.block k hk) (fun k _ h => hm k h)
  s2 := s2.keep hb9.size (fun k hk _ => hb9.block k hk) (fun k _ h => hm k h)
  sl := sl
  sa := fun b o e _ h => by
   have h1 := san b o e
   rcases (hob b).1 (hm b h) with h | h <;> omega }
theorem BJ.either {b c j : Nat} {s0 m : KSt} (h : BJ f b s0 j L due) (hk : KOk f) (hc : (nxt f b)[j]? = some (c : Int)) (hm : (L c = none /\ m = blkW f b s0) \/ ∃ t, L c = some t /\ m = jbd (blkW f b s0) t /\ m ≠ t) (hd : c ∈ due') (hs : ∀ x ∈ due, x ∈ due') (hs' : ∀ x ∈ due', x ∈ due \/ x = c) :
  BJ f b s0 (j + 1) (updK L c m) due' /\ potK f (updK L c m) < potK f L := by
 rcases hm with ⟨h1, rfl⟩ | ⟨t, h1, rfl, h2⟩
 ·exact h.fresh hk hc h1 hd hs hs'
 ·exact h.less hk hc h1 h2 hd hs hs'
end
def TailS (wo : World) (g m : Nat) (l : List Int) (v : Value) (wx : World) : Prop := wo = wx /\ ∃ qa qc, v = .slice qa m qc /\ QuI wo v l /\ v.ownBlock = some g
def OutS (wo : World) (M : Nat -> Prop) (o : KSt) (p : Value) (wx : World) : Prop := ∃ w8 H8 R1 z1 R2 z2, w8 = wx /\ p = .pointer (some ⟨H8, 0, none⟩) /\ Box w8 H8 #[.slice R1 o.1.length z1, .slice R2 o.2.length z2] 119 /\ SetM w8 M (.slice R1 o.1.length z1) o.1 /\ SetM w8 M (.slice R2 o.2.length z2) o.2 /\ Below wo.heap.size wo w8 /\ wo.heap.size <= H8
def BgJ (w1 : World) (f : FunV) (b : Nat) (s0 : KSt) (gk bm H8 : Nat) (r1 r2 : Value) (An : Option Addr) (j : Nat) (v : Value) (wr : World) : Prop :=
 ∃ L due, BJ f b s0 j L due /\ 2 * potK f L + due.length + 1 <= gk /\ Wk w1 wr bm H8 v f L due r1 r2 (blkW f b s0) An (nxt f b)
theorem jgx (vk vb vs : Value) (f : FunV) (hk : KOk f) (w : World) (B : Nat) (hB : B <= w.heap.size) (hi : FunI w (· < B) vk vb vs f) (hT : TabP w) :
  Calls Tryz.prog 82 #[.agg #[vk, vb, .int .i64 f.params, .int .i64 f.result, vs]] w (BgE w f) := by
 have HAR := hide (fun (W : World) (hW : Below w.heap.size w W) => jrl vk vb vs f hk W B (by have := hW.size; omega) (hi.keep (up hW hB) (fun _ h => h)))
 have HTH := hide (fun (l : List InsV) (hl : l ∈ f.blocks) (vl : Value) (W : World) (hW : Below w.heap.size w W) (hlv : InssV W (· < B) vl l) (M : Nat -> Prop) (hM : ∀ b, M b -> b < W.heap.size) (v1 v2 : Value) (s : KSt) (hs : GoodK f s) (h1 : SetM W M v1 s.1) (h2 : SetM W M v2 s.2) =>
  jks vk vb vs f l vl W B (by have := hW.size; omega) (hi.keep (up hW hB) (fun _ h => h)) hlv (hT.below hW hT.1) M hM v1 v2 s hs h1 h2 hk.kinds hk.bl (hk.sets l hl))
 have HNX := hide (fun (z : Int) (W : World) (hW : Below w.heap.size w W) => joz vk vb vs f z W B (by have := hW.size; omega) (hi.keep (up hW hB) (fun _ h => h)) hk.flow)
 have HBK := hide (fun (W : World) (hW : Below w.heap.size w W) => hi.2.2.1.keep (up hW hB) (fun _ h => h))
 obtain ⟨Ak, ck, rfl, hck, hmk⟩ := hi.1.open'
 obtain ⟨Ab, cb, rfl, hcb, hmb⟩ := hi.2.1.open'
 obtain ⟨As, cs, rfl, hcs, hms⟩ := hi.2.2.1.open'
 have HK := hide hk
 have h1b := hk.one
 have h40 := hk.flow.1
 obtain ⟨i0, hi0, iz0, iz1, iz2⟩ := info_parts jc5
 have HI := hide hi0
 obtain ⟨ls, hls⟩ := zl f.blocks.length
 have HLS := hide hls
 rw [hls] at HBK HTH HNX HAR h1b h40 hcs ⊢
 have hne0 : ((ls : Int) == 0) = false := by simp; omega
 clear hi hk hT hi0 hls
 generalize f.kinds.length = lk, f.base.length = lb, f.params = fp, f.result = fr at *
 have hmm := @run_makeMap Tryz.prog
 go_enter Tryz.func82, Tryz.ntmps82
 go_upto_region 1 with (fail)
 obtain ⟨w1, hw1⟩ := zr (w.alloc (.cells #[.slice Ak lk ck, .slice Ab lb cb, .int .i64 fp, .int .i64 fr, .slice As ls cs] 52))
 obtain ⟨h5, hh5⟩ := zl w.heap.size
 have HX0 := zx1 hw1 hh5
 have HB1 := zb1 hw1
 have w1s := HB1.out.size
 have w1z := zs1 hw1 hh5
 have HK0 := zk5 HX0
 have lHX0 := HX0.out.lt
 have h5g : w.heap.size <= h5 := by omega
 rw [<- hw1, hh5]
 clear hw1 hh5
 obtain ⟨c0, c1, c2, c3, c4⟩ := HK0.out w1 (Below.refl _ _)
 go_upto_region 4 with (fail)
 obtain ⟨w2, hw2⟩ := zr (w1.alloc (.map #[] 0))
 obtain ⟨bm, hbm⟩ := zl w1.heap.size
 have HM2 := hide (show MapK w2 (fun k => k = bm) bm f (fun _ => none) by rw [hw2, <- hbm]; exact jr7 HK.out w1)
 have HB2 := zb1 hw2
 have hbm1 : w1.heap.size <= bm := by omega
 have hbm2 : bm < w2.heap.size := by rw [hw2, World.size_alloc]; omega
 rw [<- hw2, hbm]
 clear hw2 hbm
 have HC2 := hide (HB1.out.trans (HB2.out.mono HB1.out.size))
 obtain ⟨d0, d1, d2, d3, d4⟩ := HK0.out w2 HB2.out
 have hz2 := HB2.out.size
 clear c0 c1 c2 c3 c4
 go_upto_region 5 with (first
  | (at_mapUpdate; refine wpList_mapUpdate_own _ rfl _ _ _ 137 rfl 3 119 keyed_int jbe RH bm n D rfl HOWN.out (by simp only [maxLen]; have := HN.out; omega) _ _ (litN 0) rfl rfl (jj3 (k := 0) (by omega)) _ [] rfl ?_; intro w4 hown4 hgr4; have HO4 := hide hown4; have HG4 := hide hgr4; clear hown4 hgr4)
  | (go_at_call 100; (with_reducible refine (HAR.out w2 HC2.out).mono ?_); rintro e w3 ⟨va, rfl, hna, hb3⟩; have HNA := hide hna; have HB3 := hide hb3; obtain ⟨A3, e3, hq, -, -, -, -⟩ := hna; subst hq; obtain ⟨D, n, hown, hn, hh, hL, ho, hv⟩ := HM2.out.keep (M' := fun k => k = bm) hb3.size (hb3.block bm hbm2) (fun k hk _ => hb3.block k hk) (fun _ _ h => h); have HOWN := hide hown; have HN := hide hn; have HR := hide (fun (w4 : World) ho4 hg4 => MapK.put (w := w3) (w' := w4) (M := fun k => k = bm) (b := bm) (s := iniW f) (c := 0) (v1 := .slice A3 (iniW f).1.length e3) (v2 := .slice none 0 0) (D := D) (n := n) ho4 hown.isMap hg4 rfl hn (jqk HK.out _) hh hL ho hv (by have := HLS.out; omega) (by omega) (HNA.out.setM (fun k hk => by rw [hk]; exact hbm2)) (SetM.nil _ _)); clear hown hn hh hL ho hv hb3)
  | go_in)
 have HM4 := hide (HR.out w4 HO4.out HG4.out)
 have HB4 := hide (show Below w1.heap.size w1 w4 from (But.of_grown HG4.out).below (HB2.out.trans (HB3.out.mono HB2.out.size)) hbm1 (by have := HB3.out.size; omega))
 have hbm4 : bm < w4.heap.size := by have := HB3.out.size; have := HG4.out.size; omega
 clear HNA HOWN HN HR HO4 HG4 d0 d1 d2 d3 d4
 obtain ⟨L0, hL0⟩ : ∃ L0, updK (fun _ => none) 0 (iniW f) = L0 := ⟨_, rfl⟩
 have HBI0 := hide (show BI f L0 [0] by rw [<- hL0]; exact BI.start HK.out)
 rw [hL0] at HM4
 clear hL0
 go_upto_region 6 with (fail)
 obtain ⟨w5, hw5⟩ := zr (w4.alloc (.cells #[.int .i64 0] 3))
 obtain ⟨h7, hh7⟩ := zl w4.heap.size
 have HST := hide (show BgR w1 f bm (2 * potK f L0 + 1) (.slice (some ⟨h7, 0, none⟩) 1 1) w5 from
  ⟨L0, [0], rfl, by have := jqm HK.out L0; omega, HBI0.out, HM4.out.keep (by rw [hw5, World.size_alloc]; omega) (by rw [hw5]; exact (ja4 w4 _).block bm hbm4) (fun k hk _ => by rw [hw5]; exact (ja4 w4 _).block k hk) (fun k hk hm => by
   rcases hm with hm | hm
   ·exact hm
   ·simp [Value.ownBlock] at hm; omega), by rw [hw5, <- hh7]; exact QuI.one w4 0, by simp [Value.ownBlock]; omega, fun g hg => (by simp [Value.ownBlock] at hg; rw [hw5, World.size_alloc]; have := HB4.out.size; omega), by rw [hw5, World.size_alloc]; omega, by rw [hw5]; exact HB4.out.alloc HB4.out.size _⟩)
 rw [<- hw5, hh7]
 clear hw5 hh7
 go_loopg [4] (2 * potK f L0 + 1) (fun k v wr => BgR w1 f bm k v wr)
 case atStart => exact HST.out
 case round =>
  obtain ⟨L, due, hk, hk2, hBI, hMK, hQ, hvb, hvg, hbmr, hb⟩ := hrel
  obtain ⟨wo, rfl⟩ := zr wr
  have HBW := hide hb
  have HBEL := hide (HB1.out.trans (hb.mono HB1.out.size))
  have hsz := hb.size
  clear HST HBI0 HM4 hb
  cases due with
  | nil =>
   obtain ⟨A, c, rfl, -, -, -⟩ := hQ
   have HE := hide (show BgE w f (.returned (.map (some bm))) wo from ⟨bm, L, rfl, hMK.keep (Nat.le_refl _) rfl (fun _ _ _ => rfl) (fun k _ h => .inl h), hBI, by omega, hbmr, HBEL.out⟩)
   clear hMK hBI hk hk2 hvb hvg
   simp only [nI_nil, List.length_nil]
   go_wp2
   go_ret
   exact HE.out
  | cons b due =>
   obtain ⟨s0, hs0, hBJ⟩ := hBI.pop
   have hbl : b < ls := by have := hBI.due_lt (b := b) List.mem_cons_self; have := HLS.out; omega
   obtain ⟨code, hcode⟩ : ∃ code, f.blocks[b]? = some code := ⟨_, List.getElem?_eq_getElem (by have := HLS.out; omega)⟩
   have HCM := hide (List.mem_of_getElem? hcode)
   have HTW := hide (show thrW f code s0 = blkW f b s0 by unfold blkW; rw [hcode])
   have HNI := hide (show nxtI f (b : Int) = nxt f b from jf1 (by have := HLS.out; omega))
   obtain ⟨bb, ob, Ac, cc, hAs, hbb, k0, hcv⟩ := (HBK.out wo HBEL.out).get hcode
   subst hAs
   have hbbs : bb < wo.heap.size := by have := HBEL.out.size; omega
   obtain ⟨vq, es, clock, hheap, -, hlkf, hcase⟩ := hMK.lookH (b : Int) (by unfold i64R; omega)
   rw [jnx, hs0] at hcase
   rcases hcase with ⟨hc, -⟩ | ⟨s', x1, x2, hc, rfl, g1, g2⟩
   ·cases hc
   cases hc
   have HG1 := hide g1
   have HG2 := hide g2
   obtain ⟨X1, y1, hq1, -, -, -, -⟩ := g1
   obtain ⟨X2, y2, hq2, -, -, -, -⟩ := g2
   subst hq1
   subst hq2
   have HQ0 := hide hQ
   obtain ⟨Av, cv, hqv, -, -, -⟩ := hQ
   subst hqv
   obtain ⟨g, o, hAv, hgl, hn, hle, hcm, hcel, hQt⟩ := (show QuI wo (.slice Av (nI (b :: due)).length cv) ((b : Int) :: nI due) from HQ0.out).tail
   subst hAv
   have HMK := hide hMK
   have HBJ := hide hBJ
   have HHP := hide hheap
   have HLK := hide hlkf
   have HCV := hide hcv
   have hdl : due.length <= 20000 := by simp only [List.length_cons] at hk; omega
   have HKK := hide (show 2 * potK f L + due.length + 1 = gk by simp only [List.length_cons] at hk; omega)
   have HVB := hide hvb
   have HVG := hide hvg
   have hgg : w1.heap.size <= g := (hvg g rfl).1
   have hgbm : g ≠ bm := fun e => hvb (by rw [e]; rfl)
   have hvlt : g < wo.heap.size := hgl
   obtain ⟨m, hm⟩ := zl ((nI due).length)
   have HMD := hide (show due.length = m by rw [<- hm, jab])
   rw [hm] at hn hQt
   clear hs0 hcode hcv hheap hlkf hBI hMK hBJ HQ0 hk hvb hvg HVB HVG hm
   rw [hn] at HMK HG1 HG2 hle ⊢
   clear hn
   obtain ⟨d0, d1, d2, d3, d4⟩ := HK0.out wo HBW.out
   have hob : ∀ k, MU bm (.slice (some ⟨g, o, none⟩) (m + 1) cv) k ↔ (k = bm \/ k = g) := fun k => (by unfold MU; simp [Value.ownBlock, eq_comm])
   obtain ⟨M9, hM9⟩ := zl (MU bm (.slice (some ⟨g, o, none⟩) (m + 1) cv))
   rw [hM9] at HMK HG1 HG2 hob
   have HOB := hide hob
   clear hob hM9
   have HGS := hide HBJ.out.good
   have HTC2 := hide (fun (W : World) (hW : Below wo.heap.size wo W) => HTH.out code HCM.out (.slice Ac code.length cc) W (HBEL.out.trans (hW.mono HBEL.out.size)) (HCV.out.keep (up hW (Nat.le_trans hB HBEL.out.size)) (fun _ h => h)) (fun k => M9 k \/ (k = wo.heap.size /\ wo.heap.size < W.heap.size)) (fun k hk => (show k < W.heap.size by have := hW.size; rcases hk with hk | ⟨hk, hk2⟩; rcases (HOB.out k).1 hk with h | h <;> omega; omega)) (.slice X1 s0.1.length y1) (.slice X2 s0.2.length y2) s0 HGS.out (HG1.out.keep hW.size (fun k hk _ => hW.block k hk) (fun k hk h => (show M9 k by rcases h with h | ⟨h, -⟩; exact h; omega))) (HG2.out.keep hW.size (fun k hk _ => hW.block k hk) (fun k hk h => (show M9 k by rcases h with h | ⟨h, -⟩; exact h; omega))))
   rw [HTW.out] at HTC2
   go_upto_region 8 with (fail)
   go_cut [4] from 26 to 27 (fun v wx => TailS wo g m (nI due) v wx)
   case first =>
    by_cases hc1 : cv = 1
    ·rw [if_pos hc1] at hQt
     obtain rfl : m = 0 := by omega
     have HQ := hide hQt
     subst hc1
     go_wp2
     go_meet
     case rel => exact ⟨rfl, _, _, rfl, HQ.out, rfl⟩
    ·rw [if_neg hc1] at hQt
     have HQ := hide hQt
     go_wp2
     go_meet
     case rel => exact ⟨rfl, _, _, rfl, HQ.out, rfl⟩
   case rest =>
    obtain ⟨rfl, qa, qc, rfl, hq9, hqo⟩ := hcut
    have HQ := hide hq9
    have HQO := hide hqo
    clear hqo hq9 hQt hcel
    obtain ⟨d0, d1, d2, d3, d4⟩ := HK0.out wo HBW.out
    have HKS := hide (fun (W : World) (hW : Below wo.heap.size wo W) => And.intro (HK0.out W (HBW.out.trans (hW.mono hsz))) (And.intro ((hW.cell (p := ⟨bb, ob + b, none⟩) hbbs).trans k0) ((hW.block bm hbmr).trans HHP.out)))
    have hlk := HLK.out
    clear HLK
    go_upto_region 9 with (fail)
    go_cut [6] from 28 to 38 (fun p wx => OutS wo M9 (blkW f b s0) p wx)
    case first =>
     go_region_held3 (fun w' => (w'.cell? ⟨h5, 0, none⟩ = some (.slice Ak lk ck) /\ w'.cell? ⟨h5, 1, none⟩ = some (.slice Ab lb cb) /\ w'.cell? ⟨h5, 2, none⟩ = some (.int .i64 fp) /\ w'.cell? ⟨h5, 3, none⟩ = some (.int .i64 fr) /\ w'.cell? ⟨h5, 4, none⟩ = some (.slice (some ⟨bb, ob, none⟩) ls cs)) /\ w'.cell? ⟨bb, ob + b, none⟩ = some (.slice Ac code.length cc) /\ w'.heap[bm]? = some (.map es clock)) (first | (exact HKS.out _ ((Below.refl _ _).drew)) | (exact HKS.out _ (((Below.refl _ _).drew).alloc (Nat.le_refl _) _)) | (exact HKS.out _ (((Below.refl _ _).drew).alloc (by simp) _)) | (exact q6) | (exact HKS.out _ (HC6.out.alloc HC6.out.size _)) | (exact HKS.out _ ((HC6.out.setCell (Nat.le_refl _) _).setCell (Nat.le_refl _) _)) | (exact HKS.out _ (((HC6.out.alloc HC6.out.size _).setCell HC6.out.size _).setCell HC6.out.size _)) | go_keep)
      (first | (go_at_call 101; refine (HTC2.out _ (by first | exact (Below.refl _ _).drew | exact ((Below.refl _ _).alloc (Nat.le_refl _) _).drew)).mono ?_; rintro e w6 ⟨r1, r2, rfl, hr1, hr2, hb6⟩; have hc6 : Below wo.heap.size wo w6 := (by first | exact ((Below.refl _ _).drew).trans (hb6.mono (Nat.le_refl _)) | exact (((Below.refl _ _).alloc (Nat.le_refl _) _).drew).trans (hb6.mono (by simp))); (first | (have hxx : Box w6 wo.heap.size #[.slice none 0 0, .slice none 0 0] 119 := (show Box (wo.alloc (.cells #[.slice none 0 0, .slice none 0 0] 119)).drew wo.heap.size _ 119 from Box.new wo _ _).below hb6; obtain ⟨u0, f0⟩ := hxx.cell 0 (v := .slice none 0 0) rfl; obtain ⟨u1, f1⟩ := hxx.cell 1 (v := .slice none 0 0) rfl; have HXX := hide hxx; clear hxx) | skip); have HC6 := hide hc6; have q6 := HKS.out w6 hc6; have HR1 := hide hr1; have HR2 := hide hr2; obtain ⟨R1, z1, hq1, -, -, -, -⟩ := hr1; obtain ⟨R2, z2, hq2, -, -, -, -⟩ := hr2; subst hq1; subst hq2; clear hb6 hc6))
     all_goals
      first
      | (obtain ⟨w8, hw8⟩ : ∃ w8, w8 = (w6.setCell ⟨wo.heap.size, 0, none⟩ (.slice R1 (blkW f b s0).1.length z1)).setCell ⟨wo.heap.size, 1, none⟩ (.slice R2 (blkW f b s0).2.length z2) := ⟨_, rfl⟩
         rw [<- hw8]
         have HX8 := hide (show Box w8 wo.heap.size #[.slice R1 (blkW f b s0).1.length z1, .slice R2 (blkW f b s0).2.length z2] 119 by rw [hw8]; exact (HXX.out.set 0 (.slice R1 (blkW f b s0).1.length z1)).set 1 (.slice R2 (blkW f b s0).2.length z2))
         have HB8 := hide (show Below wo.heap.size wo w8 by rw [hw8]; exact (HC6.out.setCell (Nat.le_refl _) _).setCell (Nat.le_refl _) _)
         have HS8 := hide (show SetM w8 M9 (.slice R1 (blkW f b s0).1.length z1) (blkW f b s0).1 /\ SetM w8 M9 (.slice R2 (blkW f b s0).2.length z2) (blkW f b s0).2 from (by have hbg : But wo.heap.size w6 w8 := (by rw [hw8]; exact ((But.refl _ _).set).set); have hk : ∀ k, k < w6.heap.size -> ¬ (M9 k \/ (k = wo.heap.size /\ wo.heap.size < ((wo.alloc (.cells #[.slice none 0 0, .slice none 0 0] 119)).drew).heap.size)) -> w8.heap[k]? = w6.heap[k]? := fun k hk hm => hbg.block k hk (fun e => hm (.inr ⟨e, by simp⟩)); exact ⟨HR1.out.keep hbg.size hk (fun k _ h => .inl h), HR2.out.keep hbg.size hk (fun k _ h => .inl h)⟩))
         have hH8 : wo.heap.size <= wo.heap.size := Nat.le_refl _
         obtain ⟨H8, hH⟩ := zl wo.heap.size
         rw [hH] at HX8 ⊢
         have hH8 : wo.heap.size <= H8 := by omega
         clear hH HXX u0 u1 f0 f1)
      | (obtain ⟨w8, hw8⟩ : ∃ w8, w8 = ((w6.alloc (.cells #[.slice none 0 0, .slice none 0 0] 119)).setCell ⟨w6.heap.size, 0, none⟩ (.slice R1 (blkW f b s0).1.length z1)).setCell ⟨w6.heap.size, 1, none⟩ (.slice R2 (blkW f b s0).2.length z2) := ⟨_, rfl⟩
         rw [<- hw8]
         have HX8 := hide (show Box w8 w6.heap.size #[.slice R1 (blkW f b s0).1.length z1, .slice R2 (blkW f b s0).2.length z2] 119 by rw [hw8]; exact ((Box.new w6 #[.slice none 0 0, .slice none 0 0] 119).set 0 (.slice R1 (blkW f b s0).1.length z1)).set 1 (.slice R2 (blkW f b s0).2.length z2))
         have HB8 := hide (show Below wo.heap.size wo w8 by rw [hw8]; exact ((HC6.out.alloc HC6.out.size _).setCell HC6.out.size _).setCell HC6.out.size _)
         have HS8 := hide (show SetM w8 M9 (.slice R1 (blkW f b s0).1.length z1) (blkW f b s0).1 /\ SetM w8 M9 (.slice R2 (blkW f b s0).2.length z2) (blkW f b s0).2 from (by have hbl : Below w6.heap.size w6 w8 := (by rw [hw8]; exact ((ja4 w6 _).setCell (Nat.le_refl _) _).setCell (Nat.le_refl _) _); exact ⟨HR1.out.keep hbl.size (fun k hk _ => hbl.block k hk) (fun k _ h => .inl h), HR2.out.keep hbl.size (fun k hk _ => hbl.block k hk) (fun k _ h => .inl h)⟩))
         have hH8 : wo.heap.size <= w6.heap.size := HC6.out.size
         obtain ⟨H8, hH⟩ := zl w6.heap.size
         rw [hH] at HX8 ⊢
         have hH8 : wo.heap.size <= H8 := by have := HC6.out.size; omega
         clear hH)
      | (obtain ⟨w8, hw8⟩ : ∃ w8, w8 = w6.alloc (.cells #[.slice R1 (blkW f b s0).1.length z1, .slice R2 (blkW f b s0).2.length z2] 119) := ⟨_, rfl⟩
         rw [<- hw8]
         have HX8 := zx1 hw8 rfl
         have HB8 := hide (show Below wo.heap.size wo w8 by rw [hw8]; exact HC6.out.alloc HC6.out.size _)
         have HS8 := hide (show SetM w8 M9 (.slice R1 (blkW f b s0).1.length z1) (blkW f b s0).1 /\ SetM w8 M9 (.slice R2 (blkW f b s0).2.length z2) (blkW f b s0).2 from (by have hbl : Below w6.heap.size w6 w8 := (by rw [hw8]; exact ja4 w6 _); exact ⟨HR1.out.keep hbl.size (fun k hk _ => hbl.block k hk) (fun k _ h => .inl h), HR2.out.keep hbl.size (fun k hk _ => hbl.block k hk) (fun k _ h => .inl h)⟩))
         have hH8 : wo.heap.size <= w6.heap.size := HC6.out.size
         obtain ⟨H8, hH⟩ := zl w6.heap.size
         rw [hH] at HX8 ⊢
         have hH8 : wo.heap.size <= H8 := by have := HC6.out.size; omega
         clear hH)
     all_goals
      go_wp2_with fail
      go_meet
      case rel => exact ⟨_, _, _, _, _, _, rfl, rfl, HX8.out, HS8.out.1, HS8.out.2, HB8.out, hH8⟩
    case rest =>
     obtain ⟨w8, H8, R1, z1, R2, z2, rfl, rfl, hbx, hs1, hs2, hbel, hH8⟩ := hcut
     have HX8 := hide hbx
     have HS8 := hide (And.intro hs1 hs2)
     have HB8 := hide hbel
     clear hbx hs1 hs2 hbel hlk HKS d0 d1 d2 d3 d4
     have HW8 := hide (show Below w1.heap.size w1 w8 from HBW.out.trans (HB8.out.mono hsz))
     obtain ⟨d0, d1, d2, d3, d4⟩ := HK0.out w8 HW8.out
     have HE8 := hide (HB1.out.trans (HW8.out.mono HB1.out.size))
     have lH8 := HX8.out.lt
     have lf8 := HW8.out.size
     have HN8 := hide (fun (W : World) (hW : Below w.heap.size w W) => HNX.out (b : Int) W hW)
     rw [HNI.out] at HN8
     obtain ⟨nx, hnx⟩ := zl (nxt f b)
     have HNXX := hide hnx
     rw [hnx] at HN8
     obtain ⟨n9, hn9⟩ := zl nx.length
     have HN9 := hide hn9
     rw [hn9] at HN8
     clear hnx hn9
     go_upto_region 11 with (go_at_call 102; (with_reducible refine (HN8.out w8 HE8.out).mono ?_); rintro e w9 ⟨An, cn, rfl, hsl, hcn, hcn2, hAn, hb9⟩; have HSL := hide hsl; have HAN := hide hAn; have HB9 := hide hb9; clear hsl hAn hb9)
     clear d0 d1 d2 d3 d4
     have HST := hide (show BgJ w1 f b s0 gk bm H8 (.slice R1 (blkW f b s0).1.length z1) (.slice R2 (blkW f b s0).2.length z2) An 0 (.slice qa m qc) w9 from
      ⟨L, due, HBJ.out, by have := HKK.out; omega, Wk.start HMK.out HOB.out HQ.out HQO.out hgbm hvlt hbmr hgg HBW.out HB8.out HB9.out HX8.out hH8 HS8.out.1 HS8.out.2 (by rw [HNXX.out]; exact HSL.out) HAN.out⟩)
     have HGP := hide HBJ.out.bl
     clear HMK HBJ HG1 HG2 HQ HX8 HS8 HSL HAN HTC2 HKK
     go_wp2
     go_loopw [4, 43] (fun v i wr => ∃ (u : Value) (j : Nat), u = v /\ j <= n9 /\ i = .int .i64 j /\ BgJ w1 f b s0 gk bm H8 (.slice R1 (blkW f b s0).1.length z1) (.slice R2 (blkW f b s0).2.length z2) An j u wr) (fun _ i _ => n9 - (intOf i).toNat)
     case atStart => exact ⟨_, 0, rfl, Nat.zero_le _, rfl, HST.out⟩
     case round =>
      obtain ⟨u, j, rfl, hj, rfl, L', due', hJ, hp, hW⟩ := hrel
      obtain ⟨wi, rfl⟩ := zr wr
      have HJ := hide hJ
      have HW := hide hW
      clear hJ hW HST
      by_cases hlt : j < n9
      case neg =>
       have HBI := hide (HJ.out.done' (by rw [HNXX.out, HN9.out]; omega))
       have hp2 : 2 * potK f L' + due'.length < gk := by omega
       clear hp
       go_wp2
       go_roundg (2 * potK f L' + due'.length)
       case measure => exact hp2
       case rel => exact ⟨L', due', rfl, by omega, HBI.out, HW.out.map, HW.out.que, HW.out.vb, HW.out.vg, HW.out.bl, HW.out.w⟩
      obtain ⟨z, hz⟩ : ∃ z, nx[j]? = some z := ⟨_, List.getElem?_eq_getElem (by have := HN9.out; omega)⟩
      have hzn : z ∈ nxt f b := by rw [HNXX.out]; exact List.mem_of_getElem? hz
      have hzr := HK.out.flow.2.2 b z hzn
      obtain ⟨c, rfl⟩ : ∃ c : Nat, z = c := ⟨z.toNat, by omega⟩
      have HCN := hide (show (nxt f b)[j]? = some (c : Int) by rw [HNXX.out]; exact hz)
      have hcl : c < f.blocks.length := by omega
      have hsl := HW.out.sl
      rw [HNXX.out] at hsl
      obtain ⟨be, oe, hAe, hbe, hce⟩ := hsl (by have := HN9.out; omega)
      subst hAe
      have q0 : wi.cell? ⟨be, oe + j, none⟩ = some (.int .i64 (c : Int)) := by rw [hce j (by have := HN9.out; omega)]; simp [List.getD, hz]
      have s0' := (HW.out.box.cell 0 (v := .slice R1 (blkW f b s0).1.length z1) rfl).1
      have s1' := (HW.out.box.cell 1 (v := .slice R2 (blkW f b s0).2.length z2) rfl).1
      have lbx := HW.out.box.lt
      have HCO := hide (jri f HK.out wi (MU bm u) (fun k hk => (by rcases hk with hk | hk; rw [hk]; exact HW.out.bl; exact (HW.out.vg k hk).2)) bm L' HW.out.map (.inl rfl) c hcl _ _ (blkW f b s0) (jcx HK.out b HJ.out.good).1 HW.out.s1 HW.out.s2 (fun t ht => (HJ.out.ok c t ht).2.2.1))
      have HDL := hide (show (nI due').length < 1000000 by rw [jab]; omega)
      have HAP := hide (show nI due' ++ [(c : Int)] = nI (due' ++ [c]) by rw [jf3]; rfl)
      clear hz hzn hzr hsl hce
      by_cases hin : c ∈ due'
      case pos =>
       have HCT := hide (fun (W : World) (hq : QuI W u (nI due')) => (show Calls Tryz.prog 104 #[u, .int .i64 (c : Int)] W fun e w' => e = .returned (.bool true) /\ W = w' by have h := jku u (nI due') (c : Int) W hq (by rw [jab]; have := HDL.out; rw [jab] at this; omega); rw [decide_eq_true (mem_nI.2 hin)] at h; exact h))
       have HJ2 := hide (fun m hm => HJ.out.either (due' := due') (m := m) HK.out HCN.out hm hin (fun x h => h) (fun x h => .inl h))
       clear hin
       go_wp2_with (first
        | (go_at_call 104; (with_reducible refine (HCT.out w7 HW7.out.que).mono ?_); rintro e w' ⟨rfl, rfl⟩)
        | (go_at_call 103; (with_reducible refine HCO.out.mono ?_); rintro e w7 ⟨r, rfl, hbut, (⟨rfl, ⟨tt, ht, he⟩, hm⟩ | ⟨rfl, m, hm, hmp⟩)⟩ <;> (first | (have HJ7 := hide (HJ.out.keep HK.out HCN.out ht he); have HW7 := hide (HW.out.come hbut hbm1 hm); clear hbut ht he hm) | (have HJ8 := hide (HJ2.out m hm); have HW7 := hide (HW.out.come hbut hbm1 (hmp HJ8.out.2)); clear hbut hm hmp))))
       all_goals
        go_roundw
        case rel =>
         first
          | exact ⟨u, j + 1, rfl, by omega, by go_num, L', due', HJ7.out, hp, HW7.out⟩
          | exact ⟨u, j + 1, rfl, by omega, by go_num, _, due', HJ8.out.1, (by have := HJ8.out.2; omega), HW7.out⟩
        case measure => simp [intOf]; omega
      case neg =>
       have HCT := hide (fun (W : World) (hq : QuI W u (nI due')) => (show Calls Tryz.prog 104 #[u, .int .i64 (c : Int)] W fun e w' => e = .returned (.bool false) /\ W = w' by have h := jku u (nI due') (c : Int) W hq (by rw [jab]; have := HDL.out; rw [jab] at this; omega); rw [decide_eq_false (fun h => hin (mem_nI.1 h))] at h; exact h))
       have HJ2 := hide (fun m hm => HJ.out.either (due' := (due' ++ [c])) (m := m) HK.out HCN.out hm (by simp) (fun x h => (by simp [h])) (fun x h => (by simpa using h)))
       clear hin
       go_wp2_with (first
        | (at_builtin; refine jfd _ rfl (.tmp 57) (.tmp 59) _ rfl 3 i0 Tryz.underlying32 HI.out iz0 iz1 iz2 u (nI due') rfl (HW7.out.que.keep (by rw [World.size_alloc]; omega) (fun g hg => (ja4 w7 _).block g (HW7.out.vg g hg).2)) w7.heap.size (c : Int) ((Box.new w7 #[.int .i64 (c : Int)] 3).cell 0 (v := .int .i64 (c : Int)) rfl).1 rfl HDL.out ?_; intro v5 w8 hq5 hg5 hv5; rw [HAP.out] at hq5; have HW9 := hide (HW7.out.app _ hg5 hq5 hv5 hbm1 (by simp [nI])); clear hq5 hg5 hv5)
        | (go_at_call 104; (with_reducible refine (HCT.out w7 HW7.out.que).mono ?_); rintro e w' ⟨rfl, rfl⟩)
        | (go_at_call 103; (with_reducible refine HCO.out.mono ?_); rintro e w7 ⟨r, rfl, hbut, (⟨rfl, ⟨tt, ht, he⟩, hm⟩ | ⟨rfl, m, hm, hmp⟩)⟩ <;> (first | (have HJ7 := hide (HJ.out.keep HK.out HCN.out ht he); have HW7 := hide (HW.out.come hbut hbm1 hm); clear hbut ht he hm) | (have HJ8 := hide (HJ2.out m hm); have HW7 := hide (HW.out.come hbut hbm1 (hmp HJ8.out.2)); clear hbut hm hmp))))
       all_goals
        go_roundw
        case rel =>
         first
          | exact ⟨u, j + 1, rfl, by omega, by go_num, L', due', HJ7.out, hp, HW7.out⟩
          | exact ⟨v5, j + 1, rfl, by omega, by go_num, _, (due' ++ [c]), HJ8.out.1, (by have := HJ8.out.2; rw [List.length_append, List.length_singleton]; omega), HW9.out⟩
        case measure => simp [intOf]; omega
end Go.Proofs.YthbnbaikdcfbmaaGreatDoor
