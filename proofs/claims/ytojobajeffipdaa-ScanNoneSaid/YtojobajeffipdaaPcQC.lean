/- Layer 16: locations in memory; whether a number is taken, the least that is free. Condition: no more than 48 spans. -/
import Derived.Test.YtojobajeffipdaaPcQB
import Derived.BigQuiet
set_option linter.unusedSimpArgs false
set_option linter.unusedVariables false
namespace Go.Proofs.Ytojobajeffipdaa
open Go.RowKit

def lcC (x : LcV) : List Value := [.int .i64 x.k, .int .i64 x.n]
def lcsA (ls : List LcV) : Array Value := (ls.flatMap lcC).toArray
theorem flat16 {β : Type} {c : β → List Value} {sz : Nat} (hc : ∀ y, (c y).length = sz) : ∀ (l : List β) (j i : Nat) (y : β), l[j]? = some y → i < sz → (l.flatMap c)[j * sz + i]? = (c y)[i]?
  | [], _, _, _, h, _ => by simp at h
  | x :: l, 0, i, y, h, hi => by
    simp at h
    subst h
    rw [List.flatMap_cons, Nat.zero_mul, Nat.zero_add, List.getElem?_append_left (by rw [hc]; exact hi)]
  | x :: l, j + 1, i, y, h, hi => by
    rw [List.flatMap_cons, List.getElem?_append_right (by rw [hc, Nat.add_mul]; omega), hc, show (j + 1) * sz + i - sz = j * sz + i by rw [Nat.add_mul]; omega]
    exact flat16 hc l j i y (by simpa using h) hi
theorem lcs_set : ∀ (ls : List LcV) (j : Nat) (k n : Int), (((ls.flatMap lcC).set (j * 2) (.int .i64 k)).set (j * 2 + 1) (.int .i64 n)) = (ls.set j ⟨k, n⟩).flatMap lcC
  | [], _, _, _ => rfl
  | x :: ls, 0, k, n => by simp [lcC]
  | x :: ls, j + 1, k, n => by
    have e : (j + 1) * 2 = j * 2 + 1 + 1 := by omega
    rw [e]
    simp only [List.flatMap_cons, List.set_cons_succ, lcC, List.cons_append, List.nil_append]
    rw [lcs_set ls j k n]
theorem Box.lc {w : World} {g : Nat} {ls : List LcV} {T : TypeId} (b : Box w g (lcsA ls) T) {j : Nat} {x : LcV} (hj : ls[j]? = some x) : (w.cell? ⟨g, j * 2, none⟩ = some (.int .i64 x.k) ∧ w.frozen? ⟨g, j * 2, none⟩ = false) ∧ (w.cell? ⟨g, j * 2 + 1, none⟩ = some (.int .i64 x.n) ∧ w.frozen? ⟨g, j * 2 + 1, none⟩ = false) := by
  have h0 := flat16 (c := lcC) (sz := 2) (fun _ => rfl) ls j 0 x hj (by omega)
  have h1 := flat16 (c := lcC) (sz := 2) (fun _ => rfl) ls j 1 x hj (by omega)
  exact ⟨b.cell (j * 2) (by unfold lcsA; rw [List.getElem?_toArray]; exact h0), b.cell (j * 2 + 1) (by unfold lcsA; rw [List.getElem?_toArray]; exact h1)⟩
theorem Box.lcSet {w : World} {g : Nat} {ls : List LcV} {T : TypeId} (b : Box w g (lcsA ls) T) (j : Nat) (k n : Int) : Box ((w.setCell ⟨g, j * 2, none⟩ (.int .i64 k)).setCell ⟨g, j * 2 + 1, none⟩ (.int .i64 n)) g (lcsA (ls.set j ⟨k, n⟩)) T := by
  have h := (b.set (j * 2) (.int .i64 k)).set (j * 2 + 1) (.int .i64 n)
  unfold lcsA at h ⊢
  rwa [List.setIfInBounds_toArray, List.setIfInBounds_toArray, lcs_set] at h
theorem taken_take {ls : List LcV} {ss : List SpV} {k n : Int} {s : SpV} {m : Nat} (hl : ls.length = ss.length) (h : ∀ j, j < m → lcAt ls j = ⟨k, n⟩ → meetB (spAt ss j) s = false) (hm : ls.length ≤ m) : takenB ls ss k n s = false := by
  cases e : takenB ls ss k n s with
  | false => rfl
  | true =>
    obtain ⟨j, h1, h2, h3, h4⟩ := taken_at.1 e
    rw [h j (by omega) h3] at h4
    cases h4
theorem taken_yes {ls : List LcV} {ss : List SpV} {k n : Int} {s : SpV} {j : Nat} {x : LcV} {y : SpV} (hx : ls[j]? = some x) (hy : ss[j]? = some y) (e : x = ⟨k, n⟩) (hm : meetB y s = true) : takenB ls ss k n s = true :=
  taken_at.2 ⟨j, (List.getElem?_eq_some_iff.1 hx).1, (List.getElem?_eq_some_iff.1 hy).1, by rw [lcAt_of hx, e], by rw [spAt_of hy, hm]⟩
theorem lBox {w v : World} {c : Array Value} {T : TypeId} {h : Nat} (e : v = w.alloc (.cells c T)) (f : w.heap.size = h) : Hid (Box v h c T) := by subst e; subst f; exact Box.new w _ _
theorem lBel {w v : World} {o : Obj} (e : v = w.alloc o) : Hid (Below w.heap.size w v) := by subst e; exact alloc1 w _
theorem letr {α : Sort _} (x : α) : ∃ y, y = x := ⟨x, rfl⟩
theorem letl {α : Sort _} (x : α) : ∃ y, x = y := ⟨x, rfl⟩
/-- The cells of spans, in every later world. -/
theorem SpsV.at' {w : World} {b o n c : Nat} {ss : List SpV} (h : SpsV w (· < w.heap.size) (.slice (some ⟨b, o, none⟩) n c) ss) {W : World} (hW : Below w.heap.size w W) {j : Nat} {y : SpV} (hy : ss[j]? = some y) :
    W.cell? ⟨b, o + j * 4, none⟩ = some (.int .i64 y.v) ∧ W.cell? ⟨b, o + j * 4 + 1, none⟩ = some (.int .i64 y.f) ∧ W.cell? ⟨b, o + j * 4 + 2, none⟩ = some (.int .i64 y.t) ∧ W.cell? ⟨b, o + j * 4 + 3, none⟩ = some (.bool y.c) ∧ b < W.heap.size := by
  obtain ⟨b', o', e, hb, ⟨h0, h1, h2, h3⟩, -⟩ := h.get hy
  injection e with e
  injection e with e1 e2 e3
  subst e1
  subst e2
  exact ⟨(hW.cell (p := ⟨b, _, none⟩) hb).trans h0, (hW.cell (p := ⟨b, _, none⟩) hb).trans h1, (hW.cell (p := ⟨b, _, none⟩) hb).trans h2, (hW.cell (p := ⟨b, _, none⟩) hb).trans h3, Nat.lt_of_lt_of_le hb hW.size⟩
theorem LcsV.at' {w : World} {b o n c : Nat} {ls : List LcV} (h : LcsV w (· < w.heap.size) (.slice (some ⟨b, o, none⟩) n c) ls) {W : World} (hW : Below w.heap.size w W) {j : Nat} {y : LcV} (hy : ls[j]? = some y) :
    W.cell? ⟨b, o + j * 2, none⟩ = some (.int .i64 y.k) ∧ W.cell? ⟨b, o + j * 2 + 1, none⟩ = some (.int .i64 y.n) ∧ b < W.heap.size := by
  obtain ⟨b', o', e, hb, ⟨h0, h1⟩, -⟩ := h.get hy
  injection e with e
  injection e with e1 e2 e3
  subst e1
  subst e2
  exact ⟨(hW.cell (p := ⟨b, _, none⟩) hb).trans h0, (hW.cell (p := ⟨b, _, none⟩) hb).trans h1, Nat.lt_of_lt_of_le hb hW.size⟩
theorem lB2 {w v : World} {o p : Obj} (e : v = (w.alloc o).alloc p) : Hid (Below w.heap.size w v) := by subst e; exact alloc2 w _ _
theorem lB3 {w v : World} {o p q : Obj} (e : v = ((w.alloc o).alloc p).alloc q) : Hid (Below w.heap.size w v) := by subst e; exact (alloc2 w _ _).alloc (by simp only [World.size_alloc]; omega) _
theorem lX2 {w v : World} {c : Array Value} {T : TypeId} {h : Nat} {o : Obj} (e : v = (w.alloc o).alloc (.cells c T)) (f : w.heap.size = h) : Hid (Box v (h + 1) c T) := by subst e; subst f; have t := Box.new (w.alloc o) c T; simp only [World.size_alloc] at t; exact t
theorem lX3 {w v : World} {c : Array Value} {T : TypeId} {h : Nat} {o p : Obj} (e : v = ((w.alloc o).alloc p).alloc (.cells c T)) (f : w.heap.size = h) : Hid (Box v (h + 1 + 1) c T) := by subst e; subst f; have t := Box.new ((w.alloc o).alloc p) c T; simp only [World.size_alloc] at t; exact t
theorem lY2 {w v : World} {c : Array Value} {T : TypeId} {h : Nat} {o : Obj} (e : v = (w.alloc (.cells c T)).alloc o) (f : w.heap.size = h) : Hid (Box v h c T) := by subst e; subst f; exact (Box.new w _ _).alloc _
theorem lY3 {w v : World} {c : Array Value} {T : TypeId} {h : Nat} {o p : Obj} (e : v = ((w.alloc (.cells c T)).alloc o).alloc p) (f : w.heap.size = h) : Hid (Box v h c T) := by subst e; subst f; exact ((Box.new w _ _).alloc _).alloc _
theorem lM3 {w v : World} {c : Array Value} {T : TypeId} {h : Nat} {o p : Obj} (e : v = ((w.alloc o).alloc (.cells c T)).alloc p) (f : w.heap.size = h) : Hid (Box v (h + 1) c T) := by subst e; subst f; have t := Box.new (w.alloc o) c T; simp only [World.size_alloc] at t; exact t.alloc _
theorem SpsV.up {w W : World} {v : Value} {ss : List SpV} (h : SpsV w (· < w.heap.size) v ss) (hW : Below w.heap.size w W) : SpsV W (· < W.heap.size) v ss := h.keep (fun b o hb => hW.cell (p := ⟨b, o, none⟩) hb) (fun b hb => Nat.lt_of_lt_of_le hb hW.size)
theorem LcsV.up {w W : World} {v : Value} {ls : List LcV} (h : LcsV w (· < w.heap.size) v ls) (hW : Below w.heap.size w W) : LcsV W (· < W.heap.size) v ls := h.keep (fun b o hb => hW.cell (p := ⟨b, o, none⟩) hb) (fun b hb => Nat.lt_of_lt_of_le hb hW.size)
set_option maxHeartbeats 1000000 in
set_option maxRecDepth 100000 in
theorem qtaken_any (gw gk gi bl ol cl n cs i m : Nat) (kd : Int) (As : Option Addr) (ls : List LcV) (ss : List SpV) (w : World) (hw : Box w gw #[.slice As n cs, .slice (some ⟨bl, ol, none⟩) n cl] 41) (hk : Box w gk #[.int .i64 kd] 3) (hi : Box w gi #[.int .i64 (i : Int)] 3)
    (hl : LcsV w (· < w.heap.size) (.slice (some ⟨bl, ol, none⟩) n cl) ls) (hs : SpsV w (· < w.heap.size) (.slice As n cs) ss) (hln : ls.length = n) (hsn : ss.length = n) (hin : i < n) (hn : n ≤ 48) (hm : m ≤ 1000) :
    Calls Try.prog 35 #[.int .i64 (m : Int), .pointer (some ⟨gw, 0, none⟩), .pointer (some ⟨gk, 0, none⟩), .pointer (some ⟨gi, 0, none⟩)] w fun e w' => e = .returned (.bool (takenB ls ss kd m (spAt ss i))) ∧ Below w.heap.size w w' := by
  obtain ⟨yi, hyi⟩ : ∃ y, ss[i]? = some y := ⟨_, List.getElem?_eq_getElem (by omega)⟩
  obtain ⟨bs, os, rfl, hbs, -⟩ := hs.get hyi
  rw [spAt_of hyi]
  have HSP := hide (fun (W : World) (hW : Below w.heap.size w W) (j : Nat) (y : SpV) (hy : ss[j]? = some y) => hs.at' hW hy)
  have HLC := hide (fun (W : World) (hW : Below w.heap.size w W) (j : Nat) (y : LcV) (hy : ls[j]? = some y) => hl.at' hW hy)
  have HK := hide (fun (W : World) (hW : Below w.heap.size w W) => And.intro ((hw.below hW).cell 0 (v := .slice (some ⟨bs, os, none⟩) n cs) rfl).1 (And.intro ((hw.below hW).cell 1 (v := .slice (some ⟨bl, ol, none⟩) n cl) rfl).1 (And.intro ((hk.below hW).cell 0 (v := .int .i64 kd) rfl).1 ((hi.below hW).cell 0 (v := .int .i64 (i : Int)) rfl).1)))
  have HLT := hide (fun (W : World) (hW : Below w.heap.size w W) => And.intro (hw.below hW).lt (And.intro (hk.below hW).lt (hi.below hW).lt))
  have HLN := hide hln
  have HSN := hide hsn
  have HYI := hide hyi
  obtain ⟨k1, k2, k3, k4⟩ := HK.out w (Below.refl _ _)
  obtain ⟨l1, l2, l3⟩ := HLT.out w (Below.refl _ _)
  clear hs hl hw hk hi hln hsn hyi hbs
  go_enter Try.func35, Try.ntmps35
  go_wp2
  clear k1 k2 k3 k4 l1 l2 l3
  go_loopw [11] (fun z wr => ∃ k : Nat, k ≤ n ∧ z = .int .i64 k ∧ Below w.heap.size w wr ∧ Hid (∀ j, j < k → lcAt ls j = ⟨kd, m⟩ → meetB (spAt ss j) yi = false)) (fun z _ => n - (intOf z).toNat)
  case atStart => exact ⟨0, Nat.zero_le _, rfl, Below.refl _ _, hide (fun j h => absurd h (by omega))⟩
  case round =>
    obtain ⟨k, hk, rfl, hb, hno⟩ := hrel
    obtain ⟨wo, rfl⟩ : ∃ wo, wo = wr := ⟨_, rfl⟩
    have HB := hide hb
    clear hb
    by_cases hlt : k < n
    case neg =>
      go_wp2
      go_ret
      exact ⟨by rw [taken_take (by rw [HLN.out, HSN.out]) hno.out (by have := HLN.out; omega)]; rfl, HB.out⟩
    obtain ⟨x, hx⟩ : ∃ y, ls[k]? = some y := ⟨_, List.getElem?_eq_getElem (by have := HLN.out; omega)⟩
    obtain ⟨y, hy⟩ : ∃ y, ss[k]? = some y := ⟨_, List.getElem?_eq_getElem (by have := HSN.out; omega)⟩
    obtain ⟨c0, c1, cb⟩ := HLC.out wo HB.out k x hx
    have HNX := hide (fun (h : meetB y yi = false ∨ x ≠ ⟨kd, m⟩) (j : Nat) (hj : j < k + 1) (e : lcAt ls j = ⟨kd, m⟩) => (show meetB (spAt ss j) yi = false from by
      by_cases e2 : j = k
      · subst e2
        rw [spAt_of hy]
        rw [lcAt_of hx] at e
        rcases h with h | h
        · exact h
        · exact absurd e h
      · exact hno.out j (by omega) e))
    have HYS := hide (fun (e : x = ⟨kd, m⟩) (hm : meetB y yi = true) => taken_yes (s := yi) hx hy e hm)
    obtain ⟨xk, xn⟩ := x
    obtain ⟨yv, yf, yt, yc⟩ := y
    have HSK := hide (fun (W : World) (hW : Below wo.heap.size wo W) => HSP.out W (HB.out.trans (hW.mono HB.out.size)) k _ hy)
    have HSI := hide (fun (W : World) (hW : Below wo.heap.size wo W) => HSP.out W (HB.out.trans (hW.mono HB.out.size)) i _ HYI.out)
    have HKK := hide (fun (W : World) (hW : Below wo.heap.size wo W) => HK.out W (HB.out.trans (hW.mono HB.out.size)))
    have HLL := hide (fun (W : World) (hW : Below wo.heap.size wo W) => HLT.out W (HB.out.trans (hW.mono HB.out.size)))
    clear hx hy hno
    go_upto_region 4 with (fail)
    obtain ⟨w4, hw4⟩ := letr (wo.alloc (.cells #[.int .i64 xk, .int .i64 xn] 37))
    obtain ⟨h4, hh4⟩ := letl wo.heap.size
    have HX := lBox hw4 hh4
    have HB4 := lBel hw4
    rw [← hw4, hh4]
    clear hw4 hh4 c0 c1 cb
    have HC := hide (HB.out.trans (HB4.out.mono HB.out.size))
    have HKR := hide (fun (W : World) (hW : Below w4.heap.size w4 W) => And.intro ((HX.out.below hW).cell 0 (v := .int .i64 xk) rfl).1 (And.intro ((HX.out.below hW).cell 1 (v := .int .i64 xn) rfl).1 (And.intro (HKK.out W (HB4.out.trans (hW.mono HB4.out.size))) (And.intro (HSK.out W (HB4.out.trans (hW.mono HB4.out.size))) (HSI.out W (HB4.out.trans (hW.mono HB4.out.size)))))))
    obtain ⟨q0, q1, ⟨k1, k2, k3, k4⟩, ⟨s0, s1, s2, s3, s4⟩, ⟨i0, i1, i2, i3, i4⟩⟩ := HKR.out w4 (Below.refl _ _)
    have lx := HX.out.lt
    obtain ⟨l1, l2, l3⟩ := HLL.out w4 HB4.out
    rcases (show (xk = kd ∧ xn = (m : Int)) ∨ ¬ xk = kd ∨ (xk = kd ∧ ¬ xn = (m : Int)) by by_cases h1 : xk = kd <;> by_cases h2 : xn = (m : Int) <;> simp [h1, h2]) with ⟨rfl, rfl⟩ | hne | ⟨rfl, hne⟩
    rotate_left
    · have HN := hide (HNX.out (.inr (fun e => hne (by injection e))))
      clear HSK HSI HKK HLL HKR s0 s1 s2 s3 s4 i0 i1 i2 i3 i4
      go_quiet (fail)
      go_wp2
      go_roundw
      case rel => exact ⟨k + 1, by omega, by go_num, below_drewN HC.out _, HN⟩
      case measure => simp [intOf]; omega
    · have HN := hide (HNX.out (.inr (fun e => hne (by injection e))))
      clear HSK HSI HKK HLL HKR s0 s1 s2 s3 s4 i0 i1 i2 i3 i4
      go_quiet (fail)
      go_wp2
      go_roundw
      case rel => exact ⟨k + 1, by omega, by go_num, below_drewN HC.out _, HN⟩
      case measure => simp [intOf]; omega
    clear q0 q1 k1 k2 k3 k4 s0 s1 s2 s3 s4 i0 i1 i2 i3 i4 lx l1 l2 l3
    obtain ⟨iv, if', it, ic⟩ := yi
    have HM := hide (fun (W : World) => qmeet_any ⟨yv, yf, yt, yc⟩ ⟨iv, if', it, ic⟩ W)
    obtain ⟨b, hbm⟩ := letl (meetB ⟨yv, yf, yt, yc⟩ ⟨iv, if', it, ic⟩)
    rw [hbm] at HM HNX HYS
    unfold spA at HM
    clear hbm
    have HKS := hide (fun (W : World) (hW : Below w4.heap.size w4 W) => (show W.cell? ⟨h4, 0, none⟩ = some (.int .i64 xk) ∧ W.cell? ⟨h4, 1, none⟩ = some (.int .i64 (m : Int)) ∧ W.cell? ⟨gk, 0, none⟩ = some (.int .i64 xk) ∧ W.cell? ⟨gw, 0, none⟩ = some (.slice (some ⟨bs, os, none⟩) n cs) ∧ W.cell? ⟨bs, os + k * 4, none⟩ = some (.int .i64 yv) ∧ W.cell? ⟨bs, os + k * 4 + 1, none⟩ = some (.int .i64 yf) ∧ W.cell? ⟨bs, os + k * 4 + 2, none⟩ = some (.int .i64 yt) ∧ W.cell? ⟨bs, os + k * 4 + 3, none⟩ = some (.bool yc) ∧ W.cell? ⟨gi, 0, none⟩ = some (.int .i64 (i : Int)) ∧ W.cell? ⟨bs, os + i * 4, none⟩ = some (.int .i64 iv) ∧ W.cell? ⟨bs, os + i * 4 + 1, none⟩ = some (.int .i64 if') ∧ W.cell? ⟨bs, os + i * 4 + 2, none⟩ = some (.int .i64 it) ∧ W.cell? ⟨bs, os + i * 4 + 3, none⟩ = some (.bool ic) from by obtain ⟨q0, q1, ⟨k1, k2, k3, k4⟩, ⟨s0, s1, s2, s3, -⟩, ⟨i0, i1, i2, i3, -⟩⟩ := HKR.out W hW; exact ⟨q0, q1, k3, k1, s0, s1, s2, s3, k4, i0, i1, i2, i3⟩))
    have BE0 := hide (show Below w4.heap.size w4 w4.drew from below_drewN (Below.refl _ _) 1)
    clear HSK HSI HKK HLL HKR
    refine wp_region_til (fun w' => w'.cell? ⟨h4, 0, none⟩ = some (.int .i64 xk) ∧ w'.cell? ⟨h4, 1, none⟩ = some (.int .i64 (m : Int)) ∧ w'.cell? ⟨gk, 0, none⟩ = some (.int .i64 xk) ∧ w'.cell? ⟨gw, 0, none⟩ = some (.slice (some ⟨bs, os, none⟩) n cs) ∧ w'.cell? ⟨bs, os + k * 4, none⟩ = some (.int .i64 yv) ∧ w'.cell? ⟨bs, os + k * 4 + 1, none⟩ = some (.int .i64 yf) ∧ w'.cell? ⟨bs, os + k * 4 + 2, none⟩ = some (.int .i64 yt) ∧ w'.cell? ⟨bs, os + k * 4 + 3, none⟩ = some (.bool yc) ∧ w'.cell? ⟨gi, 0, none⟩ = some (.int .i64 (i : Int)) ∧ w'.cell? ⟨bs, os + i * 4, none⟩ = some (.int .i64 iv) ∧ w'.cell? ⟨bs, os + i * 4 + 1, none⟩ = some (.int .i64 if') ∧ w'.cell? ⟨bs, os + i * 4 + 2, none⟩ = some (.int .i64 it) ∧ w'.cell? ⟨bs, os + i * 4 + 3, none⟩ = some (.bool ic)) 16 (by kernel_rfl) (HKS.out _ BE0.out) ?_
    obtain ⟨w100, hw100⟩ : ∃ w100, w100 = w4.drew := ⟨_, rfl⟩
    have BE100 := hide (show Below w4.heap.size w4 w100 by rw [hw100]; exact BE0.out)
    rw [← hw100]
    have hSd := HKS.out w100 BE100.out
    clear hw100
    refine tilM 2 (Or.inr hSd) ?_
    refine tilD 0 [16, 5, 4] hSd ?_
    refine tilD 1 [16, 5, 4, 3] hSd ?_
    refine tilM 3 (Or.inr hSd) ?_
    refine tilM 4 (Or.inr hSd) ?_
    refine tilM 5 (Or.inr hSd) ?_
    refine tilM 6 (Or.inr hSd) ?_
    refine tilM 8 (Or.inr hSd) ?_
    refine tilM 11 (Or.inr hSd) ?_
    refine tilD 7 [16, 10, 9] hSd ?_
    refine tilM 9 (Or.inr hSd) ?_
    refine tilT 10 hSd ?_
    refine tilD 12 [16, 15, 14] hSd ?_
    refine tilD 13 [16, 15, 14] hSd ?_
    refine tilM 14 (Or.inr hSd) ?_
    refine tilT 15 hSd ?_
    refine wpTil_ready (rs := [16]) (by kernel_rfl) (by simp) ?_
    refine AllTil.last rfl (by rfl) (fun K hK => ?_)
    rw [if_pos (by rfl)]
    go_simp
    go_at_call 27
    (with_reducible refine (HM.out w100).mono ?_)
    rintro e w101 ⟨rfl, hb2⟩
    have BE101 := hide (BE100.out.trans (hb2.mono BE100.out.size))
    clear hb2
    refine hK.out _ _ ?_
    clear hK K hSd
    try simp only [tilS, Act.put]
    refine tilM 17 (Or.inl (by rfl)) ?_
    refine wpTil_done (by kernel_rfl) ?_ _
    cases b
    · have HN := hide (HNX.out (.inl rfl))
      go_wp2
      go_roundw
      case rel => exact ⟨k + 1, by omega, by go_num, HC.out.trans (BE101.out.mono HC.out.size), HN⟩
      case measure => simp [intOf]; omega
    · have HN := hide (HYS.out rfl rfl)
      go_wp2
      go_ret
      exact ⟨by rw [HN.out]; rfl, HC.out.trans (BE101.out.mono HC.out.size)⟩
set_option maxHeartbeats 1000000 in
set_option maxRecDepth 100000 in
theorem qleast_any (bl ol cl n cs i : Nat) (kd : Int) (As : Option Addr) (ls : List LcV) (ss : List SpV) (w : World)
    (hl : LcsV w (· < w.heap.size) (.slice (some ⟨bl, ol, none⟩) n cl) ls) (hs : SpsV w (· < w.heap.size) (.slice As n cs) ss) (hln : ls.length = n) (hsn : ss.length = n) (hin : i < n) (hn : n ≤ 48) :
    Calls Try.prog 30 #[.agg #[.slice As n cs, .slice (some ⟨bl, ol, none⟩) n cl], .int .i64 kd, .int .i64 (i : Int)] w fun e w' => e = .returned (.int .i64 ((leastN ls ss kd (spAt ss i) : Nat) : Int)) ∧ Below w.heap.size w w' := by
  obtain ⟨h1, h2, h3⟩ := least_spec ls ss kd (spAt ss i)
  have h3' := hits_le ls ss kd (spAt ss i)
  have hle : leastN ls ss kd (spAt ss i) ≤ 48 := by omega
  have HNO := hide h1
  have HYES := hide h2
  have HTK := hide (fun (m gw gk gi : Nat) (W : World) (hm : m ≤ 1000) (hW : Below w.heap.size w W) (a : Box W gw #[.slice As n cs, .slice (some ⟨bl, ol, none⟩) n cl] 41) (b : Box W gk #[.int .i64 kd] 3) (c : Box W gi #[.int .i64 (i : Int)] 3) => qtaken_any gw gk gi bl ol cl n cs i m kd As ls ss W a b c (hl.up hW) (hs.up hW) hln hsn hin hn hm)
  obtain ⟨z, hz⟩ := letl (leastN ls ss kd (spAt ss i))
  rw [hz] at HNO HYES hle ⊢
  clear hl hs hln hsn h1 h2 h3 h3' hz
  go_enter Try.func30, Try.ntmps30
  go_upto_region 2 with (fail)
  obtain ⟨w1, hw1⟩ := letr (((w.alloc (.cells #[.slice As n cs, .slice (some ⟨bl, ol, none⟩) n cl] 41)).alloc (.cells #[.int .i64 kd] 3)).alloc (.cells #[.int .i64 (i : Int)] 3))
  obtain ⟨h0, hh0⟩ := letl w.heap.size
  have HX0 := lY3 hw1 hh0
  have HX1 := lM3 hw1 hh0
  have HX2 := lX3 hw1 hh0
  have HB1 := lB3 hw1
  rw [← hw1, hh0]
  clear hw1 hh0
  go_wp2
  go_loopw [8] (fun v wr => ∃ k : Nat, k ≤ z ∧ v = .int .i64 k ∧ Below w1.heap.size w1 wr) (fun v _ => z - (intOf v).toNat)
  case atStart => exact ⟨0, Nat.zero_le _, rfl, Below.refl _ _⟩
  case round =>
    obtain ⟨k, hk, rfl, hb⟩ := hrel
    obtain ⟨wo, rfl⟩ : ∃ wo, wo = wr := ⟨_, rfl⟩
    have HB := hide hb
    have HC := hide (HTK.out k h0 (h0 + 1) (h0 + 1 + 1) wo (by omega) (HB1.out.trans (hb.mono HB1.out.size)) (HX0.out.below hb) (HX1.out.below hb) (HX2.out.below hb))
    clear hb
    obtain ⟨b, hbb⟩ := letl (takenB ls ss kd (k : Int) (spAt ss i))
    rw [hbb] at HC
    have HE := hide hbb
    clear hbb
    cases b
    · have he : k = z := by
        rcases Nat.lt_or_ge k z with h | h
        · have := HYES.out k h
          rw [HE.out] at this
          cases this
        · omega
      subst he
      go_wp2_with (go_at_call 35; (with_reducible refine HC.out.mono ?_); rintro e w5 ⟨rfl, hb5⟩)
      go_ret
      exact ⟨rfl, HB1.out.trans ((HB.out.trans (hb5.mono HB.out.size)).mono HB1.out.size)⟩
    · have he : k < z := by
        rcases Nat.lt_or_ge k z with h | h
        · exact h
        · have e : k = z := by omega
          subst e
          have := HNO.out
          rw [HE.out] at this
          cases this
      go_wp2_with (go_at_call 35; (with_reducible refine HC.out.mono ?_); rintro e w5 ⟨rfl, hb5⟩)
      go_roundw
      case rel => exact ⟨k + 1, by omega, by go_num, HB.out.trans (hb5.mono HB.out.size)⟩
      case measure => simp [intOf]; omega
end Go.Proofs.Ytojobajeffipdaa
