/- Plain mathematics: what the reader reads, as functions of what is left of the bytes and the first error. No condition. -/
import Derived.Test.YtkimocfofihjbaaDoorMB
import Derived.Test.YtkimocfofihjbaaDoorMV
import Derived.Laws.MakeOwn
import Derived.Deep.RegionHeld3
import Derived.Deep.CutRange
import Derived.RegionTactic
set_option linter.unusedSimpArgs false
set_option linter.unusedVariables false
namespace Go.Proofs.YtkimocfofihjbaaDoor
open Go.RowKit

/-- What is left of the bytes, and the first error's number. -/
abbrev St := List Int × Nat
def numT (s : St) : Int × St := if s.2 = 0 then (((rd 9 0 0 s.1).1 : Int), (s.1.drop (rd 9 0 0 s.1).2.1, (rd 9 0 0 s.1).2.2)) else (0, s)
def snumT (s : St) : Int × St := if s.2 = 0 then (unz (rd 10 0 0 s.1).1, (s.1.drop (rd 10 0 0 s.1).2.1, (rd 10 0 0 s.1).2.2)) else (0, s)
def onlyT (may : Int → Bool) (er : Nat) (s : St) : Int × St := if (numT s).2.2 = 0 then (if may (numT s).1 = true then numT s else (0, ((numT s).2.1, er))) else (0, (numT s).2)
def limB (lo hi : Int) (n : Int) : Bool := decide (lo ≤ n) && decide (n ≤ hi)
def cntT (lo hi : Int) (s : St) : Int × St := onlyT (limB lo hi) 9 s
def isOpB (n : Int) : Bool := !(partsN n).isEmpty
def varT (s : St) : (Int × Int) × St := if (onlyT kindB 5 s).1 = 2 then ((2, (numT (onlyT kindB 5 s).2).1), (numT (onlyT kindB 5 s).2).2) else (((onlyT kindB 5 s).1, -1), (onlyT kindB 5 s).2)
def manyT {α : Type} (f : St → α × St) : Nat → St → List α × St
  | 0, s => ([], s)
  | n + 1, s => ((manyT f n s).1 ++ [(f (manyT f n s).2).1], (f (manyT f n s).2).2)
def listT (s : St) : List Int × St := manyT numT (cntT 0 4 s).1.toNat (cntT 0 4 s).2
def partT (p : InsV × St) (c : Nat) : InsV × St :=
  if c = 110 then ({ p.1 with n := (snumT p.2).1 }, (snumT p.2).2) else if c = 76 then ({ p.1 with args := (listT p.2).1 }, (listT p.2).2) else (setF c (numT p.2).1 p.1, (numT p.2).2)
def insT (s : St) : InsV × St := (partsN (onlyT isOpB 5 s).1).foldl partT (bare (onlyT isOpB 5 s).1, (onlyT isOpB 5 s).2)
def blkT (s : St) : List InsV × St := manyT insT (cntT 0 40 s).1.toNat (cntT 0 40 s).2
def varsT (s : St) : List (Int × Int) × St := manyT varT (cntT 0 48 s).1.toNat (cntT 0 48 s).2
def blksT (s : St) : List (List InsV) × St := manyT blkT (cntT 0 40 s).1.toNat (cntT 0 40 s).2
def funT (s : St) : FunV × St :=
  (⟨(varsT s).1.map (·.1), (varsT s).1.map (·.2), (numT (varsT s).2).1, (numT (numT (varsT s).2).2).1, (blksT (numT (numT (varsT s).2).2).2).1⟩, (blksT (numT (numT (varsT s).2).2).2).2)
def progT (s : St) : List FunV × St := manyT funT (cntT 1 8 s).1.toNat (cntT 1 8 s).2
/-- The error at the end. -/
def endE (s : St) : Nat := if s.2 = 0 ∧ 0 < s.1.length then 11 else s.2
def decR (zs : List Int) : List FunV × Nat := if endE (progT (zs, 0)).2 = 0 then ((progT (zs, 0)).1, 0) else ([], endE (progT (zs, 0)).2)

theorem manyT_len {α : Type} (f : St → α × St) : ∀ (n : Nat) (s : St), (manyT f n s).1.length = n
  | 0, _ => rfl
  | n + 1, s => by simp [manyT, manyT_len f n s]
theorem manyT_st {α : Type} (f : St → α × St) (n : Nat) (s : St) : (manyT f (n + 1) s).2 = (f (manyT f n s).2).2 := rfl
theorem manyT_ls {α : Type} (f : St → α × St) (n : Nat) (s : St) : (manyT f (n + 1) s).1 = (manyT f n s).1 ++ [(f (manyT f n s).2).1] := rfl

/-- Bytes are bytes. -/
def Byt (s : St) : Prop := ∀ z ∈ s.1, 0 ≤ z ∧ z ≤ 255
theorem Byt.drop {zs : List Int} {e e' k : Nat} (h : Byt (zs, e)) : Byt (zs.drop k, e') := fun z hz => h z (List.mem_of_mem_drop hz)
theorem numT_byt {s : St} (h : Byt s) : Byt (numT s).2 := by
  unfold numT; split
  · exact Byt.drop (e := s.2) h
  · exact h
theorem numT_R {s : St} (h : Byt s) : 0 ≤ (numT s).1 ∧ (numT s).1 ≤ 9223372036854775807 := by
  unfold numT; split
  · have := rd_lt63 s.1 h
    simp only
    omega
  · simp
theorem snumT_R {s : St} (h : Byt s) : i64R (snumT s).1 := by
  unfold snumT; split
  · have := rd_lt 10 (by omega) s.1 0 0 h (fun _ => by simp)
    unfold unz
    simp only
    split <;> (unfold i64R; omega)
  · simp [i64R]
theorem onlyT_R {may : Int → Bool} {er : Nat} {s : St} (h : Byt s) : 0 ≤ (onlyT may er s).1 ∧ (onlyT may er s).1 ≤ 9223372036854775807 := by
  unfold onlyT
  split
  · split
    · exact numT_R h
    · simp
  · simp
theorem cntT_R {lo hi : Int} {s : St} (h : Byt s) (hh : 0 ≤ hi) : 0 ≤ (cntT lo hi s).1 ∧ (cntT lo hi s).1 ≤ hi := by
  have h1 := (onlyT_R (may := limB lo hi) (er := 9) h).1
  refine ⟨h1, ?_⟩
  unfold cntT onlyT
  split
  · split
    · rename_i h2 h3
      simp only [limB, Bool.and_eq_true, decide_eq_true_eq] at h3
      exact h3.2
    · exact hh
  · exact hh
end Go.Proofs.YtkimocfofihjbaaDoor
namespace Go.Proofs.YtkimocfofihjbaaDoor
open Go.RowKit

/-- All blocks but g are as they were. -/
structure Read (g : Nat) (w w' : World) : Prop where
  os : w'.os = w.os
  tape : w'.tape = w.tape
  output : w'.output = w.output
  size : w.heap.size ≤ w'.heap.size
  block : ∀ k, k < w.heap.size → k ≠ g → w'.heap[k]? = w.heap[k]?
section
variable {g : Nat} {w w1 w2 : World}
theorem Read.refl (g : Nat) (w : World) : Read g w w := ⟨rfl, rfl, rfl, Nat.le_refl _, fun _ _ _ => rfl⟩
theorem Read.trans (h : Read g w w1) (h2 : Read g w1 w2) : Read g w w2 :=
  ⟨h2.os.trans h.os, h2.tape.trans h.tape, h2.output.trans h.output, Nat.le_trans h.size h2.size, fun k hk hg => (h2.block k (by have := h.size; omega) hg).trans (h.block k hk hg)⟩
theorem Read.alloc (h : Read g w w1) (o : Obj) : Read g w (w1.alloc o) :=
  h.trans ⟨rfl, rfl, rfl, by simp, fun k hk _ => Below.heap_alloc _ _ _ hk⟩
theorem Read.of_below (h : Below w.heap.size w w1) : Read g w w1 := ⟨h.os, h.tape, h.output, h.size, fun k hk _ => h.block k hk⟩
theorem Read.set (h : Read g w w1) {b j : Nat} {v : Value} (hb : w.heap.size ≤ b ∨ b = g) : Read g w (w1.setCell ⟨b, j, none⟩ v) :=
  ⟨h.os, h.tape, h.output, by rw [World.size_setCell]; exact h.size, fun k hk hg => (heap_setCell_other w1 ⟨b, j, none⟩ k v (by simp; omega)).trans (h.block k hk hg)⟩
theorem Read.drewN (h : Read g w w1) (q : Nat) : Read g w (w1.drewN q) := ⟨h.os, h.tape, h.output, h.size, h.block⟩
theorem Read.iter (h : Read g w w1) {k : Nat} {s : ByteArray} {p : Nat} (hk : w.heap.size ≤ k) : Read g w (w1.iterAt k s p) :=
  ⟨h.os, h.tape, h.output, by rw [Lib.iterAt_size]; exact h.size, fun i hi hg => (Lib.iterAt_other w1 k i s p (by omega)).trans (h.block i hi hg)⟩
theorem Read.below (h : Read g w w1) (hg : g ≤ w.heap.size) : Below g w w1 := ⟨h.os, h.tape, h.output, h.size, fun k hk => h.block k (by omega) (by omega)⟩
theorem Read.box {k : Nat} {cs : Array Value} {T : TypeId} (h : Read g w w1) (b : Box w k cs T) (hk : k ≠ g) : Box w1 k cs T := (h.block k b.lt hk).trans b
theorem Read.same {S : Nat → Prop} (h : Read g w w1) (hS : ∀ b, S b → b < w.heap.size ∧ b ≠ g) : Same' S w w1 := fun b o hb => World.cell?_of_block (a := ⟨b, o, none⟩) (h.block b (hS b hb).1 (hS b hb).2)
theorem Read.iterAt {k : Nat} {s : ByteArray} {p : Nat} (h : Read g w w1) (hk : w.heap[k]? = some (.stringIter s p)) (hkg : k ≠ g) : w1.heap[k]? = some (.stringIter s p) := (h.block k (iter_lt hk) hkg).trans hk
end

/-- The reader: what is left of the bytes, the first error, the closures. B: below it lie the bytes and the closures. -/
def RS (w : World) (g B : Nat) (s : St) : Prop :=
  ∃ A c l0 l1 l2 l3 l4, Box w g #[.slice A s.1.length c, .int .i64 (s.2 : Int), l0, l1, l2, l3, l4] 50 ∧ Sl w B .u8 A s.1 ∧ s.1.length ≤ c ∧ c ≤ 9223372036854775807 ∧ LimsC w (· < B) l0 l1 l2 l3 l4 ∧ Byt s ∧ B ≤ g
theorem RS.lt {w : World} {g B : Nat} {s : St} (h : RS w g B s) : B ≤ g ∧ g < w.heap.size := by
  obtain ⟨A, c, l0, l1, l2, l3, l4, hb, -, -, -, -, -, hB⟩ := h
  exact ⟨hB, hb.lt⟩
theorem RS.byt {w : World} {g B : Nat} {s : St} (h : RS w g B s) : Byt s := by
  obtain ⟨A, c, l0, l1, l2, l3, l4, -, -, -, -, -, hb, -⟩ := h
  exact hb
theorem RS.below {w w1 : World} {g B : Nat} {s : St} (h : RS w g B s) (hb : Below w.heap.size w w1) : RS w1 g B s := by
  obtain ⟨A, c, l0, l1, l2, l3, l4, hbx, hs, h1, h2, hl, h3, hB⟩ := h
  have hlt := hbx.lt
  exact ⟨A, c, l0, l1, l2, l3, l4, hbx.below hb, hs.below (hb.mono (by omega)), h1, h2, hl.keep (Same'.of_below (hb.mono (by omega))) (fun _ h => h), h3, hB⟩
theorem RS.alloc {w : World} {g B : Nat} {s : St} (h : RS w g B s) (o : Obj) : RS (w.alloc o) g B s := h.below ((Below.refl _ _).alloc (Nat.le_refl _) _)
theorem RS.set {w : World} {g B b j : Nat} {v : Value} {s : St} (h : RS w g B s) (hb : g < b) : RS (w.setCell ⟨b, j, none⟩ v) g B s := by
  obtain ⟨A, c, l0, l1, l2, l3, l4, hbx, hs, h1, h2, hl, h3, hB⟩ := h
  have hbel : Below b w (w.setCell ⟨b, j, none⟩ v) := (Below.refl _ _).setCell (p := ⟨b, j, none⟩) (Nat.le_refl _) _
  exact ⟨A, c, l0, l1, l2, l3, l4, hbx.belowB hbel hb, hs.below (hbel.mono (by omega)), h1, h2, hl.keep (Same'.of_below (hbel.mono (by omega))) (fun _ h => h), h3, hB⟩
theorem RS.drewN {w : World} {g B : Nat} {s : St} (h : RS w g B s) (q : Nat) : RS (w.drewN q) g B s := h
theorem RS.iter {w : World} {g B k p : Nat} {t : ByteArray} {s : St} (h : RS w g B s) (hk : g < k) : RS (w.iterAt k t p) g B s := by
  obtain ⟨A, c, l0, l1, l2, l3, l4, hbx, hs, h1, h2, hl, h3, hB⟩ := h
  have hbel : Below k w (w.iterAt k t p) := Lib.below_iterAt (Below.refl _ _) (Nat.le_refl _) t p
  exact ⟨A, c, l0, l1, l2, l3, l4, hbx.belowB hbel hk, hs.below (hbel.mono (by omega)), h1, h2, hl.keep (Same'.of_below (hbel.mono (by omega))) (fun _ h => h), h3, hB⟩
/-- What a reader's method leaves. -/
structure ReadTo (w : World) (g B : Nat) (s : St) (w' : World) : Prop where
  rs : RS w' g B s
  read : Read g w w'

theorem num_end {w : World} {g B n m c E d : Nat} {A A' : Option Addr} {zs : List Int} {l0 l1 l2 l3 l4 : Value}
    (hb : Box w g #[.slice A n c, .int .i64 0, l0, l1, l2, l3, l4] 50) (hs : Sl w B .u8 A zs) (hn : zs.length = n) (hc : n ≤ c) (hm : c ≤ 9223372036854775807) (hL : LimsC w (· < B) l0 l1 l2 l3 l4) (hby : Byt (zs, 0)) (hB : B ≤ g)
    (hA : m < n → ∀ b o, A = some ⟨b, o, none⟩ → A' = some ⟨b, o + m, none⟩) (hd : d = c - m) (hmn : m ≤ n) :
    ReadTo w g B (zs.drop m, E) ((w.setCell ⟨g, 0, none⟩ (.slice A' (n - m) d)).setCell ⟨g, 1, none⟩ (.int .i64 (E : Int))) := by
  subst hd hn
  have hbel : Below g w ((w.setCell ⟨g, 0, none⟩ (.slice A' (zs.length - m) (c - m))).setCell ⟨g, 1, none⟩ (.int .i64 (E : Int))) := ((Below.refl _ _).setCell (p := ⟨g, 0, none⟩) (Nat.le_refl _) _).setCell (p := ⟨g, 1, none⟩) (Nat.le_refl _) _
  refine ⟨⟨A', c - m, l0, l1, l2, l3, l4, ?_, (hs.drop hA).below (hbel.mono hB), by simp; omega, by omega, hL.keep (Same'.of_below (hbel.mono hB)) (fun _ h => h), Byt.drop hby, hB⟩, ((Read.refl _ _).set (Or.inr rfl)).set (Or.inr rfl)⟩
  have := (hb.set 0 (.slice A' (zs.length - m) (c - m))).set 1 (.int .i64 (E : Int))
  simpa using this

theorem rd_size (most : Nat) : ∀ (zs : List Int) (u i : Nat), (rd most u i zs).2.1 ≤ i + zs.length
  | [], u, i => by simp only [rd]; split <;> simp
  | z :: zs, u, i => by
    simp only [rd]
    split
    · split
      · have := rd_size most zs (u + (z % 128).toNat * 128 ^ i) (i + 1)
        simp <;> omega
      · split
        · simp
        · split
          · simp
          · simp <;> omega
    · simp
theorem rd_err (most : Nat) : ∀ (zs : List Int) (u i : Nat), (rd most u i zs).2.2 ≠ 0 → (rd most u i zs).1 = 0 ∧ (rd most u i zs).2.1 = 0
  | [], u, i, _ => by simp only [rd]; split <;> simp
  | z :: zs, u, i, h => by
    simp only [rd] at h ⊢
    split
    · rename_i h0
      rw [if_pos h0] at h
      split
      · rename_i h1
        rw [if_pos h1] at h
        exact rd_err most zs _ _ h
      · rename_i h1
        rw [if_neg h1] at h
        split
        · simp
        · rename_i h2
          rw [if_neg h2] at h
          split
          · simp
          · rename_i h3
            rw [if_neg h3] at h
            exact absurd rfl h
    · simp

set_option maxRecDepth 100000 in
theorem take_any (g B : Nat) (s : St) (w : World) (h : RS w g B s) :
    Calls Tryd.prog 47 #[.pointer (some ⟨g, 0, none⟩), .func (.func 48) #[] #[]] w fun e w' => e = .returned (.int .i64 (numT s).1) ∧ ReadTo w g B (numT s).2 w' := by
  have h0 := h
  obtain ⟨A, c, l0, l1, l2, l3, l4, hb, hs, hc, hm, hL, hby, hB⟩ := h
  obtain ⟨zs, E⟩ := s
  simp only at hb hs hc
  by_cases hE : E = 0
  · subst hE
    have hv := hide (show numT (zs, 0) = (((rd 9 0 0 zs).1 : Int), (zs.drop (rd 9 0 0 zs).2.1, (rd 9 0 0 zs).2.2)) from rfl)
    have hsz := rd_size 9 zs 0 0
    obtain ⟨n, hn⟩ : ∃ n, zs.length = n := ⟨_, rfl⟩
    rw [hn] at hb hc hsz
    have hG := get_any A n c zs w B hs hn hc (by omega) hby
    have hend := fun (A' : Option Addr) (d : Nat) (hA : (rd 9 0 0 zs).2.1 < n → ∀ b o, A = some ⟨b, o, none⟩ → A' = some ⟨b, o + (rd 9 0 0 zs).2.1, none⟩) (hd : d = c - (rd 9 0 0 zs).2.1) => num_end (E := (rd 9 0 0 zs).2.2) hb hs hn hc hm hL hby hB hA hd (by omega)
    have HA := hide (fun (hp : 0 < n) => hs (by omega))
    have HEND := hide hend
    have HGT := hide hG
    obtain ⟨a0, a1, a2, a3, a4, c0, c1, c2, c3, c4, rfl, rfl, rfl, rfl, rfl⟩ := hL.open'
    obtain ⟨y0, z0⟩ := hb.cell 0 (v := .slice A n c) rfl
    obtain ⟨y1, z1⟩ := hb.cell 1 (v := .int .i64 0) rfl
    have hlt := hb.lt
    rw [hv.out]
    clear hv hG hend hb hs hL hby h0 hn
    generalize rd 9 0 0 zs = r at *
    obtain ⟨r1, r2, r3⟩ := r
    simp only at *
    generalize zs.drop r2 = zd at *
    by_cases hcm : c = r2
    · have hnr : n = r2 := by omega
      subst hnr
      subst hcm
      have hfin := hide (HEND.out A 0 (fun hh => absurd hh (by omega)) (by omega))
      clear HEND
      go_enter Tryd.func47, Tryd.ntmps47
      go_wp2_with (go_at_call 48; refine HGT.out.mono ?_; rintro e w' ⟨rfl, rfl⟩)
      go_ret
      exact ⟨rfl, by simpa using hfin.out⟩
    · by_cases hn0 : 0 < n
      · obtain ⟨b, o, rfl, -⟩ := HA.out hn0
        have hfin := hide (HEND.out (some ⟨b, o + r2, none⟩) (c - r2) (fun _ b' o' hh => by injection hh with hh; injection hh with h1 h2 _; rw [h1, h2]) rfl)
        clear HEND
        have hlc : r2 < c := by omega
        go_enter Tryd.func47, Tryd.ntmps47
        go_wp2_with (go_at_call 48; refine HGT.out.mono ?_; rintro e w' ⟨rfl, rfl⟩)
        go_ret
        exact ⟨rfl, hfin.out⟩
      · have hr0 : r2 = 0 := by omega
        subst hr0
        have hn1 : n = 0 := by omega
        subst hn1
        have hfin := hide (HEND.out A c (fun hh => absurd hh (by omega)) (by omega))
        clear HEND
        have hlc : 0 < c := by omega
        rcases A with _ | ⟨b, o, sp⟩
        all_goals
          go_enter Tryd.func47, Tryd.ntmps47
          go_wp2_with (go_at_call 48; refine HGT.out.mono ?_; rintro e w' ⟨rfl, rfl⟩)
          go_ret
          exact ⟨rfl, by simpa using hfin.out⟩
  · have hv := hide (show numT (zs, E) = (0, (zs, E)) by unfold numT; rw [if_neg hE])
    have hEb : ((E : Int) != 0) = true := by simp; omega
    obtain ⟨y1, z1⟩ := hb.cell 1 (v := .int .i64 (E : Int)) rfl
    have hlt := hb.lt
    have H0 := hide h0
    clear hb hs hL hby h0 hE
    go_enter Tryd.func47, Tryd.ntmps47
    go_wp2
    go_ret
    rw [hv.out]
    exact ⟨rfl, H0.out, Read.refl _ _⟩

set_option maxRecDepth 100000 in
theorem takes_any (g B : Nat) (s : St) (w : World) (h : RS w g B s) :
    Calls Tryd.prog 47 #[.pointer (some ⟨g, 0, none⟩), .func (.func 54) #[] #[]] w fun e w' => e = .returned (.int .i64 (snumT s).1) ∧ ReadTo w g B (snumT s).2 w' := by
  have h0 := h
  obtain ⟨A, c, l0, l1, l2, l3, l4, hb, hs, hc, hm, hL, hby, hB⟩ := h
  obtain ⟨zs, E⟩ := s
  simp only at hb hs hc
  by_cases hE : E = 0
  · subst hE
    have hv := hide (show snumT (zs, 0) = (unz (rd 10 0 0 zs).1, (zs.drop (rd 10 0 0 zs).2.1, (rd 10 0 0 zs).2.2)) from rfl)
    have hsz := rd_size 10 zs 0 0
    obtain ⟨n, hn⟩ : ∃ n, zs.length = n := ⟨_, rfl⟩
    rw [hn] at hb hc hsz
    have hG := gets_any A n c zs w B hs hn hc (by omega) hby
    have hend := fun (A' : Option Addr) (d : Nat) (hA : (rd 10 0 0 zs).2.1 < n → ∀ b o, A = some ⟨b, o, none⟩ → A' = some ⟨b, o + (rd 10 0 0 zs).2.1, none⟩) (hd : d = c - (rd 10 0 0 zs).2.1) => num_end (E := (rd 10 0 0 zs).2.2) hb hs hn hc hm hL hby hB hA hd (by omega)
    have HA := hide (fun (hp : 0 < n) => hs (by omega))
    have HEND := hide hend
    have HGT := hide hG
    obtain ⟨a0, a1, a2, a3, a4, c0, c1, c2, c3, c4, rfl, rfl, rfl, rfl, rfl⟩ := hL.open'
    obtain ⟨y0, z0⟩ := hb.cell 0 (v := .slice A n c) rfl
    obtain ⟨y1, z1⟩ := hb.cell 1 (v := .int .i64 0) rfl
    have hlt := hb.lt
    rw [hv.out]
    clear hv hG hend hb hs hL hby h0 hn
    generalize rd 10 0 0 zs = r at *
    obtain ⟨r1, r2, r3⟩ := r
    simp only at *
    generalize zs.drop r2 = zd at *
    by_cases hcm : c = r2
    · have hnr : n = r2 := by omega
      subst hnr
      subst hcm
      have hfin := hide (HEND.out A 0 (fun hh => absurd hh (by omega)) (by omega))
      clear HEND
      go_enter Tryd.func47, Tryd.ntmps47
      go_wp2_with (go_at_call 54; refine HGT.out.mono ?_; rintro e w' ⟨rfl, rfl⟩)
      go_ret
      exact ⟨rfl, by simpa using hfin.out⟩
    · by_cases hn0 : 0 < n
      · obtain ⟨b, o, rfl, -⟩ := HA.out hn0
        have hfin := hide (HEND.out (some ⟨b, o + r2, none⟩) (c - r2) (fun _ b' o' hh => by injection hh with hh; injection hh with h1 h2 _; rw [h1, h2]) rfl)
        clear HEND
        have hlc : r2 < c := by omega
        go_enter Tryd.func47, Tryd.ntmps47
        go_wp2_with (go_at_call 54; refine HGT.out.mono ?_; rintro e w' ⟨rfl, rfl⟩)
        go_ret
        exact ⟨rfl, hfin.out⟩
      · have hr0 : r2 = 0 := by omega
        subst hr0
        have hn1 : n = 0 := by omega
        subst hn1
        have hfin := hide (HEND.out A c (fun hh => absurd hh (by omega)) (by omega))
        clear HEND
        have hlc : 0 < c := by omega
        rcases A with _ | ⟨b, o, sp⟩
        all_goals
          go_enter Tryd.func47, Tryd.ntmps47
          go_wp2_with (go_at_call 54; refine HGT.out.mono ?_; rintro e w' ⟨rfl, rfl⟩)
          go_ret
          exact ⟨rfl, by simpa using hfin.out⟩
  · have hv := hide (show snumT (zs, E) = (0, (zs, E)) by unfold snumT; rw [if_neg hE])
    have hEb : ((E : Int) != 0) = true := by simp; omega
    obtain ⟨y1, z1⟩ := hb.cell 1 (v := .int .i64 (E : Int)) rfl
    have hlt := hb.lt
    have H0 := hide h0
    clear hb hs hL hby h0 hE
    go_enter Tryd.func47, Tryd.ntmps47
    go_wp2
    go_ret
    rw [hv.out]
    exact ⟨rfl, H0.out, Read.refl _ _⟩

set_option maxRecDepth 100000 in
theorem number_any' (g B : Nat) (s : St) (w : World) (h : RS w g B s) :
    Calls Tryd.prog 36 #[.pointer (some ⟨g, 0, none⟩)] w fun e w' => e = .returned (.int .i64 (numT s).1) ∧ ReadTo w g B (numT s).2 w' := by
  have H := hide (take_any g B s w h)
  clear h
  generalize numT s = r at *
  go_enter Tryd.func36, Tryd.ntmps36
  go_wp2_with (go_at_call 47; refine H.out.mono ?_; rintro e w1 ⟨rfl, hr⟩)
  go_ret
  exact ⟨rfl, hr⟩
end Go.Proofs.YtkimocfofihjbaaDoor
namespace Go.Proofs.YtkimocfofihjbaaDoor
open Go.RowKit

theorem RS.fail {w : World} {g B E : Nat} {s : St} (h : RS w g B s) : ReadTo w g B (s.1, E) (w.setCell ⟨g, 1, none⟩ (.int .i64 (E : Int))) := by
  obtain ⟨A, c, l0, l1, l2, l3, l4, hb, hs, hc, hm, hL, hby, hB⟩ := h
  have hbel : Below g w (w.setCell ⟨g, 1, none⟩ (.int .i64 (E : Int))) := (Below.refl _ _).setCell (p := ⟨g, 1, none⟩) (Nat.le_refl _) _
  refine ⟨⟨A, c, l0, l1, l2, l3, l4, ?_, hs.below (hbel.mono hB), hc, hm, hL.keep (Same'.of_below (hbel.mono hB)) (fun _ h => h), hby, hB⟩, (Read.refl _ _).set (Or.inr rfl)⟩
  have := hb.set 1 (.int .i64 (E : Int))
  simpa using this
/-- What is seen of the reader. -/
theorem RS.see {w : World} {g B : Nat} {s : St} (h : RS w g B s) : w.cell? ⟨g, 1, none⟩ = some (.int .i64 (s.2 : Int)) ∧ w.frozen? ⟨g, 1, none⟩ = false := by
  obtain ⟨A, c, l0, l1, l2, l3, l4, hb, -⟩ := h
  exact hb.cell 1 rfl
theorem ReadTo.trans {w w1 w2 : World} {g B : Nat} {s t : St} (h : ReadTo w g B s w1) (h2 : ReadTo w1 g B t w2) : ReadTo w g B t w2 := ⟨h2.rs, h.read.trans h2.read⟩
theorem ReadTo.mid {w w1 w2 : World} {g B : Nat} {s t : St} (h : ReadTo w g B s w1) (h2 : RS w1 g B s → ReadTo w1 g B t w2) : ReadTo w g B t w2 := h.trans (h2 h.rs)

set_option maxRecDepth 100000 in
theorem onlyKind_any (g B er : Nat) (ei : Int) (hei : ei = (er : Int)) (s : St) (w : World) (h : RS w g B s) :
    Calls Tryd.prog 34 #[.pointer (some ⟨g, 0, none⟩), .func (.func 29) #[] #[], .int .i64 ei] w fun e w' => e = .returned (.int .i64 (onlyT kindB er s).1) ∧ ReadTo w g B (onlyT kindB er s).2 w' := by
  subst hei
  have H := hide (number_any' g B s w h)
  have hby := h.byt
  have hR := numT_R hby
  have hst := fun w1 (h1 : ReadTo w g B (numT s).2 w1) => h1.rs.fail (E := er)
  by_cases hE : (numT s).2.2 = 0
  · by_cases hm : kindB (numT s).1 = true
    · have hv := hide (show onlyT kindB er s = numT s by unfold onlyT; rw [if_pos hE, if_pos hm])
      rw [hv.out]
      generalize numT s = r at *
      obtain ⟨r1, r2, r3⟩ := r
      simp only at *
      subst hE
      have HM := hide hm
      clear hv hm hby h
      go_enter Tryd.func34, Tryd.ntmps34
      go_wp2_with (first
        | (go_at_call 36; refine H.out.mono ?_; rintro e w1 ⟨rfl, hr⟩; obtain ⟨s1, z1⟩ := hr.rs.see; have hlt := hr.rs.lt.2; have HRR := hide hr; clear hr)
        | (go_at_call 29; refine (isKind_any r1 _).mono ?_; rw [HM.out]; rintro e w' ⟨rfl, rfl⟩))
      go_ret
      exact ⟨rfl, HRR.out⟩
    · have hmf := Bool.eq_false_iff.2 hm
      have hv := hide (show onlyT kindB er s = (0, ((numT s).2.1, er)) by unfold onlyT; rw [if_pos hE, if_neg hm])
      rw [hv.out]
      generalize numT s = r at *
      obtain ⟨r1, r2, r3⟩ := r
      simp only at *
      subst hE
      have HM := hide hmf
      have HST := hide hst
      clear hv hm hmf hby h hst
      go_enter Tryd.func34, Tryd.ntmps34
      go_wp2_with (first
        | (go_at_call 36; refine H.out.mono ?_; rintro e w1 ⟨rfl, hr⟩; obtain ⟨s1, z1⟩ := hr.rs.see; have hlt := hr.rs.lt.2; have HRR := hide hr; clear hr)
        | (go_at_call 29; refine (isKind_any r1 _).mono ?_; rw [HM.out]; rintro e w' ⟨rfl, rfl⟩))
      go_ret
      exact ⟨rfl, HRR.out.trans (HST.out _ HRR.out)⟩
  · have hv := hide (show onlyT kindB er s = (0, (numT s).2) by unfold onlyT; rw [if_neg hE])
    rw [hv.out]
    generalize numT s = r at *
    obtain ⟨r1, r2, r3⟩ := r
    simp only at *
    have hEb : ((r3 : Int) != 0) = true := by simp; omega
    clear hv hby h hst hE
    go_enter Tryd.func34, Tryd.ntmps34
    go_wp2_with (go_at_call 36; refine H.out.mono ?_; rintro e w1 ⟨rfl, hr⟩; obtain ⟨s1, z1⟩ := hr.rs.see; have hlt := hr.rs.lt.2; have HRR := hide hr; clear hr)
    go_ret
    exact ⟨rfl, HRR.out⟩

theorem isOp_any (op : Int) (w : World) (hT : TabP w) (hop : i64R op) :
    Calls Tryd.prog 41 #[.int .i64 op] w fun e w' => e = .returned (.bool (isOpB op)) ∧ w = w' := by
  by_cases h : partsN op = []
  · have : isOpB op = false := by unfold isOpB; rw [h]; rfl
    rw [this]; exact isOp_no op w hT hop h
  · have : isOpB op = true := by unfold isOpB; cases hh : partsN op with | nil => exact absurd hh h | cons a b => rfl
    rw [this]; exact isOp_yes op w hT hop h

set_option maxRecDepth 100000 in
theorem onlyOp_any (g B er : Nat) (ei : Int) (hei : ei = (er : Int)) (s : St) (w : World) (h : RS w g B s) (hT : TabP w) (hB0 : 0 < g) :
    Calls Tryd.prog 34 #[.pointer (some ⟨g, 0, none⟩), .func (.func 41) #[] #[], .int .i64 ei] w fun e w' => e = .returned (.int .i64 (onlyT isOpB er s).1) ∧ ReadTo w g B (onlyT isOpB er s).2 w' := by
  subst hei
  have H := hide (number_any' g B s w h)
  have hby := h.byt
  have hgw := Nat.le_of_lt h.lt.2
  have hR := numT_R hby
  have hst := fun w1 (h1 : ReadTo w g B (numT s).2 w1) => h1.rs.fail (E := er)
  by_cases hE : (numT s).2.2 = 0
  · by_cases hm : isOpB (numT s).1 = true
    · have hv := hide (show onlyT isOpB er s = numT s by unfold onlyT; rw [if_pos hE, if_pos hm])
      rw [hv.out]
      generalize numT s = r at *
      obtain ⟨r1, r2, r3⟩ := r
      simp only at *
      subst hE
      have HM := hide hm
      clear hv hm hby h
      go_enter Tryd.func34, Tryd.ntmps34
      go_wp2_with (first
        | (go_at_call 36; refine H.out.mono ?_; rintro e w1 ⟨rfl, hr⟩; obtain ⟨s1, z1⟩ := hr.rs.see; have hlt := hr.rs.lt.2; have HRR := hide hr; clear hr)
        | (go_at_call 41; refine (isOp_any r1 _ (hT.below (HRR.out.read.below hgw) hB0) ⟨by omega, by omega⟩).mono ?_; rw [HM.out]; rintro e w' ⟨rfl, rfl⟩))
      go_ret
      exact ⟨rfl, HRR.out⟩
    · have hmf := Bool.eq_false_iff.2 hm
      have hv := hide (show onlyT isOpB er s = (0, ((numT s).2.1, er)) by unfold onlyT; rw [if_pos hE, if_neg hm])
      rw [hv.out]
      generalize numT s = r at *
      obtain ⟨r1, r2, r3⟩ := r
      simp only at *
      subst hE
      have HM := hide hmf
      have HST := hide hst
      clear hv hm hmf hby h hst
      go_enter Tryd.func34, Tryd.ntmps34
      go_wp2_with (first
        | (go_at_call 36; refine H.out.mono ?_; rintro e w1 ⟨rfl, hr⟩; obtain ⟨s1, z1⟩ := hr.rs.see; have hlt := hr.rs.lt.2; have HRR := hide hr; clear hr)
        | (go_at_call 41; refine (isOp_any r1 _ (hT.below (HRR.out.read.below hgw) hB0) ⟨by omega, by omega⟩).mono ?_; rw [HM.out]; rintro e w' ⟨rfl, rfl⟩))
      go_ret
      exact ⟨rfl, HRR.out.trans (HST.out _ HRR.out)⟩
  · have hv := hide (show onlyT isOpB er s = (0, (numT s).2) by unfold onlyT; rw [if_neg hE])
    rw [hv.out]
    generalize numT s = r at *
    obtain ⟨r1, r2, r3⟩ := r
    simp only at *
    have hEb : ((r3 : Int) != 0) = true := by simp; omega
    clear hv hby h hst hE
    go_enter Tryd.func34, Tryd.ntmps34
    go_wp2_with (go_at_call 36; refine H.out.mono ?_; rintro e w1 ⟨rfl, hr⟩; obtain ⟨s1, z1⟩ := hr.rs.see; have hlt := hr.rs.lt.2; have HRR := hide hr; clear hr)
    go_ret
    exact ⟨rfl, HRR.out⟩

set_option maxRecDepth 100000 in
theorem onlyLim_any (g B er : Nat) (ei : Int) (hei : ei = (er : Int)) (lv : Value) (lo hi : Int) (s : St) (w : World) (h : RS w g B s) (hL : LimC w (· < B) lv lo hi) :
    Calls Tryd.prog 34 #[.pointer (some ⟨g, 0, none⟩), lv, .int .i64 ei] w fun e w' => e = .returned (.int .i64 (onlyT (limB lo hi) er s).1) ∧ ReadTo w g B (onlyT (limB lo hi) er s).2 w' := by
  subst hei
  have H := hide (number_any' g B s w h)
  have hby := h.byt
  have hgw := h.lt
  obtain ⟨b1, b2, rfl, hb1, hb2, hc1, hc2⟩ := hL
  have hR := numT_R hby
  have hst := fun w1 (h1 : ReadTo w g B (numT s).2 w1) => h1.rs.fail (E := er)
  by_cases hE : (numT s).2.2 = 0
  · by_cases hm : (limB lo hi) (numT s).1 = true
    · have hv := hide (show onlyT (limB lo hi) er s = numT s by unfold onlyT; rw [if_pos hE, if_pos hm])
      rw [hv.out]
      generalize numT s = r at *
      obtain ⟨r1, r2, r3⟩ := r
      simp only at *
      subst hE
      have HM := hide (show (decide (lo ≤ r1) && decide (r1 ≤ hi)) = true from hm)
      clear hv hm hby h
      go_enter Tryd.func34, Tryd.ntmps34
      go_wp2_with (first
        | (go_at_call 36; refine H.out.mono ?_; rintro e w1 ⟨rfl, hr⟩; obtain ⟨s1, z1⟩ := hr.rs.see; have hlt := hr.rs.lt.2; have HRR := hide hr; clear hr)
        | (go_at_call 21; refine (from_any r1 lo hi b1 b2 _ ((HRR.out.read.same (S := (· < B)) (fun b hb => ⟨by omega, by omega⟩) b1 0 hb1).trans hc1) ((HRR.out.read.same (S := (· < B)) (fun b hb => ⟨by omega, by omega⟩) b2 0 hb2).trans hc2)).mono ?_; rw [HM.out]; rintro e w' ⟨rfl, rfl⟩))
      go_ret
      exact ⟨rfl, HRR.out⟩
    · have hmf := Bool.eq_false_iff.2 hm
      have hv := hide (show onlyT (limB lo hi) er s = (0, ((numT s).2.1, er)) by unfold onlyT; rw [if_pos hE, if_neg hm])
      rw [hv.out]
      generalize numT s = r at *
      obtain ⟨r1, r2, r3⟩ := r
      simp only at *
      subst hE
      have HM := hide (show (decide (lo ≤ r1) && decide (r1 ≤ hi)) = false from hmf)
      have HST := hide hst
      clear hv hm hmf hby h hst
      go_enter Tryd.func34, Tryd.ntmps34
      go_wp2_with (first
        | (go_at_call 36; refine H.out.mono ?_; rintro e w1 ⟨rfl, hr⟩; obtain ⟨s1, z1⟩ := hr.rs.see; have hlt := hr.rs.lt.2; have HRR := hide hr; clear hr)
        | (go_at_call 21; refine (from_any r1 lo hi b1 b2 _ ((HRR.out.read.same (S := (· < B)) (fun b hb => ⟨by omega, by omega⟩) b1 0 hb1).trans hc1) ((HRR.out.read.same (S := (· < B)) (fun b hb => ⟨by omega, by omega⟩) b2 0 hb2).trans hc2)).mono ?_; rw [HM.out]; rintro e w' ⟨rfl, rfl⟩))
      go_ret
      exact ⟨rfl, HRR.out.trans (HST.out _ HRR.out)⟩
  · have hv := hide (show onlyT (limB lo hi) er s = (0, (numT s).2) by unfold onlyT; rw [if_neg hE])
    rw [hv.out]
    generalize numT s = r at *
    obtain ⟨r1, r2, r3⟩ := r
    simp only at *
    have hEb : ((r3 : Int) != 0) = true := by simp; omega
    clear hv hby h hst hE
    go_enter Tryd.func34, Tryd.ntmps34
    go_wp2_with (go_at_call 36; refine H.out.mono ?_; rintro e w1 ⟨rfl, hr⟩; obtain ⟨s1, z1⟩ := hr.rs.see; have hlt := hr.rs.lt.2; have HRR := hide hr; clear hr)
    go_ret
    exact ⟨rfl, HRR.out⟩

theorem count_any (lv : Value) (lo hi : Int) (g B : Nat) (s : St) (w : World) (h : RS w g B s) (hL : LimC w (· < B) lv lo hi) :
    Calls Tryd.prog 22 #[.pointer (some ⟨g, 0, none⟩), lv] w fun e w' => e = .returned (.int .i64 (cntT lo hi s).1) ∧ ReadTo w g B (cntT lo hi s).2 w' := by
  have H := hide (onlyLim_any g B 9 9 rfl lv lo hi s w h hL)
  obtain ⟨b1, b2, rfl, -⟩ := hL
  unfold cntT
  clear h
  generalize onlyT (limB lo hi) 9 s = r at *
  go_enter Tryd.func22, Tryd.ntmps22
  go_wp2_with (go_at_call 34; refine H.out.mono ?_; rintro e w1 ⟨rfl, hr⟩)
  go_ret
  exact ⟨rfl, hr⟩
end Go.Proofs.YtkimocfofihjbaaDoor
namespace Go.Proofs.YtkimocfofihjbaaDoor
open Go.RowKit

theorem mk_run (t e : TypeId) {z : Value} {sz bytes : Nat} (ht : Tryd.prog.underlying t = some (.slice e)) (hi : (Tryd.prog.info? e).map (fun i => (i.zero, i.size, i.bytes)) = some (some z, sz, bytes)) (hb : bytes ≤ 1000) (m : Nat) (hm : m ≤ 1000) (W : World) :
    (Instr.makeSlice t (.int .i64 (m : Int)) (.int .i64 (m : Int))).run Tryd.prog W = .ok (.slice (some ⟨W.heap.size, 0, none⟩) m m) (W.alloc (.cells (madeCells z.cells (m * sz)) e)) := by
  obtain ⟨i0, hi0, hz0, hz1, hz2⟩ := info_parts hi
  have hmul : i0.bytes * m ≤ 1000 * 1000 := by rw [hz2]; exact Nat.mul_le_mul hb hm
  have h := run_make (P := Tryd.prog) W t e i0 z ht hi0 hz0 .i64 .i64 (m : Int) (m : Int) (by omega) (by omega) (by rw [← Int.natCast_mul]; omega) (by omega)
  rw [hz1, Int.toNat_natCast] at h
  exact h

/-- A block of numbers under way: n of them, of which those of l are laid. -/
def FillI (w : World) (h : Nat) (T : TypeId) (n : Nat) (l : List Int) : Prop := ∃ cur : Array Value, Box w h cur T ∧ cur.size = n ∧ ∀ (j : Nat) (x : Int), l[j]? = some x → cur[j]? = some (.int .i64 x) ∧ i64R x
section
variable {w w' : World} {h n : Nat} {T : TypeId} {l : List Int}
theorem FillI.new (w : World) (cs : Array Value) (T : TypeId) (hn : cs.size = n) : FillI (w.alloc (.cells cs T)) w.heap.size T n [] := ⟨cs, Box.new w cs T, hn, fun j x hj => by simp at hj⟩
theorem FillI.lt (f : FillI w h T n l) : h < w.heap.size := by
  obtain ⟨cur, hb, -⟩ := f
  exact hb.lt
theorem FillI.keep (f : FillI w h T n l) (hk : w'.heap[h]? = w.heap[h]?) : FillI w' h T n l := by
  obtain ⟨cur, hb, hs, hc⟩ := f
  exact ⟨cur, hk.trans hb, hs, hc⟩
theorem FillI.cell (f : FillI w h T n l) {k : Nat} (hk : k < n) : ∃ v, w.cell? ⟨h, k, none⟩ = some v ∧ w.frozen? ⟨h, k, none⟩ = false := by
  obtain ⟨cur, hb, hs, -⟩ := f
  obtain ⟨v, hv⟩ : ∃ v, cur[k]? = some v := ⟨_, Array.getElem?_eq_getElem (by omega)⟩
  exact ⟨v, hb.cell k hv⟩
theorem FillI.set (f : FillI w h T n l) {k : Nat} {x : Int} (hk : k < n) (hl : l.length = k) (hx : i64R x) : FillI (w.setCell ⟨h, k, none⟩ (.int .i64 x)) h T n (l ++ [x]) := by
  obtain ⟨cur, hb, hs, hc⟩ := f
  refine ⟨_, hb.set k _, by simpa using hs, fun j y hj => ?_⟩
  by_cases hjl : j < l.length
  · rw [List.getElem?_append_left hjl] at hj
    have := hc j y hj
    rw [Array.getElem?_setIfInBounds_ne (by omega)]
    exact this
  · have hjk : j = k := by
      have := (List.getElem?_eq_some_iff.1 hj).1
      simp at this; omega
    subst hjk
    rw [← hl, List.getElem?_append_right (Nat.le_refl _)] at hj
    simp at hj
    subst hj
    rw [Array.getElem?_setIfInBounds_self]
    exact ⟨by rw [if_pos (by omega)], hx⟩
theorem FillI.ints (f : FillI w h T n l) (hl : l.length = n) (hn : n ≤ 1000) {S : Nat → Prop} (hS : S h) : IntsV w S (.slice (some ⟨h, 0, none⟩) n n) l := by
  obtain ⟨cur, hb, hs, hc⟩ := f
  subst hl
  refine ⟨_, _, rfl, Nat.le_refl _, by omega, fun _ => ⟨h, 0, rfl, hS, fun j x hj => ?_⟩⟩
  obtain ⟨h1, h2⟩ := hc j x hj
  refine ⟨?_, h2⟩
  rw [Nat.zero_add, Nat.mul_one]
  exact (hb.cell j h1).1
end
theorem numT_i64 {s : St} (h : Byt s) : i64R (numT s).1 := by
  have := numT_R h
  exact ⟨by omega, by omega⟩

set_option maxRecDepth 100000 in
theorem variable_any (g B : Nat) (s : St) (w : World) (h : RS w g B s) :
    Calls Tryd.prog 35 #[.pointer (some ⟨g, 0, none⟩)] w fun e w' => e = .returned (.tuple #[.int .i64 (varT s).1.1, .int .i64 (varT s).1.2]) ∧ ReadTo w g B (varT s).2 w' := by
  have H := hide (onlyKind_any g B 5 5 rfl s w h)
  by_cases h2 : (onlyT kindB 5 s).1 = 2
  · have hv := hide (show varT s = ((2, (numT (onlyT kindB 5 s).2).1), (numT (onlyT kindB 5 s).2).2) by unfold varT; rw [if_pos h2])
    rw [hv.out]
    have H2 := hide (fun w1 (h1 : ReadTo w g B (onlyT kindB 5 s).2 w1) => number_any' g B _ w1 h1.rs)
    generalize onlyT kindB 5 s = r at *
    obtain ⟨r1, r2⟩ := r
    simp only at *
    subst h2
    generalize numT r2 = q at *
    clear h hv
    go_enter Tryd.func35, Tryd.ntmps35
    go_wp2_with (first
      | (go_at_call 34; refine H.out.mono ?_; rintro e w1 ⟨rfl, hr⟩)
      | (go_at_call 36; refine (H2.out _ hr).mono ?_; rintro e w2 ⟨rfl, hr2⟩))
    go_ret2
    exact ⟨rfl, hr.trans hr2⟩
  · have hv := hide (show varT s = (((onlyT kindB 5 s).1, -1), (onlyT kindB 5 s).2) by unfold varT; rw [if_neg h2])
    rw [hv.out]
    generalize onlyT kindB 5 s = r at *
    obtain ⟨r1, r2⟩ := r
    simp only at *
    have h2b : (r1 == 2) = false := by simpa using h2
    clear h hv h2
    go_enter Tryd.func35, Tryd.ntmps35
    go_wp2_with (go_at_call 34; refine H.out.mono ?_; rintro e w1 ⟨rfl, hr⟩)
    go_ret2
    exact ⟨rfl, hr⟩

/-- The blocks that a call has made. -/
def Made (w w' : World) (b : Nat) : Prop := w.heap.size ≤ b ∧ b < w'.heap.size

set_option maxRecDepth 100000 in
theorem list_any' (g B : Nat) (s : St) (w : World) (h : RS w g B s) :
    Calls Tryd.prog 55 #[.pointer (some ⟨g, 0, none⟩)] w fun e w' => ∃ v, e = .returned v ∧ IntsV w' (Made w w') v (listT s).1 ∧ ReadTo w g B (listT s).2 w' := by
  have hgw := h.lt
  have h0 := h
  obtain ⟨A, c, l0, l1, l2, l3, l4, hb, hs, hc, hm, hL, hby, hB⟩ := h
  have H := hide (count_any l4 0 4 g B s w h0 hL.2.2.2.2)
  have hcR := cntT_R (lo := 0) (hi := 4) hby (by omega)
  obtain ⟨m, hm'⟩ : ∃ m : Nat, (cntT 0 4 s).1 = (m : Int) := ⟨(cntT 0 4 s).1.toNat, by omega⟩
  have hv := hide (show listT s = manyT numT m (cntT 0 4 s).2 by unfold listT; rw [hm']; rfl)
  rw [hv.out]
  rw [hm'] at H hcR
  have hmk := mk_run 35 3 Tryd.underlying35 info_i64 (by omega) m (by omega)
  have hZs : (madeCells (Value.cells (.int .i64 0)) (m * 1)).size = m := by rw [size_madeCells]; omega
  generalize madeCells (Value.cells (.int .i64 0)) (m * 1) = Z at *
  have HZ := hide hZs
  have x6 := (hb.cell 6 (v := l4) rfl).1
  obtain ⟨-, -, -, -, a4, -, -, -, -, c4, -, -, -, -, rfl⟩ := hL.open'
  generalize (cntT 0 4 s).2 = t at *
  clear hb hs hL hby h0 hZs hv hm'
  go_enter Tryd.func55, Tryd.ntmps55
  go_wp2_with (go_at_call 22; refine H.out.mono ?_; rintro e w1 ⟨rfl, hr⟩)
  have hsz1 := hr.read.size
  have hg1 := hr.rs.lt.2
  go_loopw [15] (fun i wr => ∃ k : Nat, k ≤ m ∧ i = .int .i64 k ∧ ReadTo w g B (manyT numT k t).2 wr ∧ FillI wr w1.heap.size 3 m (manyT numT k t).1) (fun i _ => m - (intOf i).toNat)
  case atStart => exact ⟨0, Nat.zero_le _, rfl, ⟨hr.rs.alloc _, hr.read.alloc _⟩, FillI.new w1 Z _ HZ.out⟩
  case round =>
    obtain ⟨k, hk, rfl, hrr, hf⟩ := hrel
    have hfl := hf.lt
    by_cases hlt : k < m
    · have hst := hide (manyT_st numT k t)
      have hls := hide (manyT_ls numT k t)
      have hlen := manyT_len numT k t
      have hN := number_any' g B _ wr hrr.rs
      have hir := numT_i64 hrr.rs.byt
      have HF := hide (fun w3 (h3 : Read g wr w3) => hf.keep (h3.block _ hfl (by omega)))
      have HRR := hide hrr
      generalize manyT numT k t = q at *
      generalize numT q.2 = u at *
      have HN := hide hN
      clear hN hf hrr
      go_wp2_with (go_at_call 36; refine HN.out.mono ?_; rintro e w3 ⟨rfl, hr3⟩; have hf3 := HF.out _ hr3.read; obtain ⟨v3, y3, z3⟩ := hf3.cell hlt; have hfl3 := hf3.lt; have HF3 := hide hf3; have HR3 := hide hr3; clear hf3 hr3)
      go_roundw
      case rel => exact ⟨k + 1, by omega, by go_num, by rw [hst.out]; exact ⟨HR3.out.rs.set (by omega), (HRR.out.read.trans HR3.out.read).set (Or.inl hsz1)⟩, by rw [hls.out]; exact HF3.out.set hlt hlen hir⟩
      case measure => simp [intOf]; omega
    · have hkm : k = m := by omega
      subst hkm
      have hend := hide (hf.ints (manyT_len numT k t) (by omega) (S := Made w wr) ⟨hsz1, hfl⟩)
      have HRR := hide hrr
      clear hf hrr
      go_wp2
      go_ret
      exact ⟨_, rfl, hend.out, HRR.out⟩
end Go.Proofs.YtkimocfofihjbaaDoor
namespace Go.Proofs.YtkimocfofihjbaaDoor
open Go.RowKit

theorem below1 (w : World) (o : Obj) : Below w.heap.size w (w.alloc o) := (Below.refl _ _).alloc (Nat.le_refl _) _
theorem fold_take {α β : Type} {f : β → α → β} {a : β} {l : List α} {k : Nat} {c : α} (h : l[k]? = some c) : (l.take (k + 1)).foldl f a = f ((l.take k).foldl f a) c := by
  rw [List.take_add_one, List.foldl_append, h]; rfl
theorem same_set' {S : Nat → Prop} {w : World} {g j : Nat} {v : Value} (h : ∀ b, S b → b ≠ g) : Same' S w (w.setCell ⟨g, j, none⟩ v) := fun b o hb => World.cell?_setCell_far _ _ _ _ (by simpa using (h b hb).symm)
theorem same_iter {S : Nat → Prop} {w : World} {k p : Nat} {s : ByteArray} (h : ∀ b, S b → b ≠ k) : Same' S w (w.iterAt k s p) := fun b o hb => World.cell?_of_block (a := ⟨b, o, none⟩) (Lib.iterAt_other w k b s p (h b hb))
theorem part_num {p : InsV × St} {c : Nat} (h1 : c ≠ 110) (h2 : c ≠ 76) : partT p c = (setF c (numT p.2).1 p.1, (numT p.2).2) := by unfold partT; rw [if_neg h1, if_neg h2]
theorem part_n {p : InsV × St} : partT p 110 = ({ p.1 with n := (snumT p.2).1 }, (snumT p.2).2) := rfl
theorem part_l {p : InsV × St} : partT p 76 = ({ p.1 with args := (listT p.2).1 }, (listT p.2).2) := rfl
theorem InsR.setF {r : InsV} (h : InsR r) (c : Nat) {v : Int} (hv : i64R v) : InsR (setF c v r) := by
  obtain ⟨h0, h1, h2, h3, h4, h5⟩ := h
  unfold Proofs.YtkimocfofihjbaaDoor.setF
  split
  · exact ⟨h0, hv, h2, h3, h4, h5⟩
  · split
    · exact ⟨h0, h1, hv, h3, h4, h5⟩
    · split
      · exact ⟨h0, h1, h2, hv, h4, h5⟩
      · split
        · exact ⟨h0, h1, h2, h3, h4, hv⟩
        · exact ⟨h0, h1, h2, h3, hv, h5⟩
theorem InsR.setN {r : InsV} (h : InsR r) {v : Int} (hv : i64R v) : InsR { r with n := v } := ⟨h.1, h.2.1, h.2.2.1, h.2.2.2.1, hv, h.2.2.2.2.2⟩
theorem InsR.setA {r : InsV} (h : InsR r) (l : List Int) : InsR { r with args := l } := h

/-- The loop over the letters in ins: hr the result's block, hx the instruction's, H the iterator's. -/
def RInsRel (op : Int) (s1 : St) (w : World) (g B hr hx H : Nat) (wr : World) : Prop :=
  ∃ (k : Nat) (A : Option Addr) (n c : Nat), k ≤ (partsN op).length ∧ wr.heap[H]? = some (.stringIter (strOf (partsN op)) k) ∧ Box wr hr (insBox (bare 0) (.slice none 0 0)) 40 ∧
    Box wr hx (insBox (((partsN op).take k).foldl partT (bare op, s1)).1 (.slice A n c)) 40 ∧ InsI wr (fun b => H < b ∧ b < wr.heap.size) (.slice A n c) (((partsN op).take k).foldl partT (bare op, s1)).1 ∧
    ReadTo w g B (((partsN op).take k).foldl partT (bare op, s1)).2 wr

set_option maxHeartbeats 1000000 in
set_option maxRecDepth 100000 in
theorem rins_any (g B : Nat) (s : St) (w : World) (hB0 : 0 < g) (hT : TabP w) (h : RS w g B s) :
    Calls Tryd.prog 49 #[.pointer (some ⟨g, 0, none⟩)] w fun e w' => ∃ va, e = .returned (.agg #[.int .i64 (insT s).1.op, .int .i64 (insT s).1.d, .int .i64 (insT s).1.a, .int .i64 (insT s).1.b, .int .i64 (insT s).1.n, .int .i64 (insT s).1.m, va]) ∧ InsI w' (Made w w') va (insT s).1 ∧ ReadTo w g B (insT s).2 w' := by
  have hgw := h.lt
  have hopR := onlyT_R (may := isOpB) (er := 5) h.byt
  have hv := hide (show insT s = (partsN (onlyT isOpB 5 s).1).foldl partT (bare (onlyT isOpB 5 s).1, (onlyT isOpB 5 s).2) from rfl)
  rw [hv.out]
  have hO := onlyOp_any g B 5 5 rfl s (w.alloc (.cells (insBox (bare 0) (.slice none 0 0)) 40)) (h.alloc _) (hT.below (below1 w _) hT.1) hB0
  have HL := hide (partsN_letter (onlyT isOpB 5 s).1)
  generalize onlyT isOpB 5 s = r at *
  obtain ⟨op, s1⟩ := r
  simp only at *
  have hop : i64R op := ⟨by omega, by omega⟩
  have HT := hide hT
  have HO := hide hO
  have HOP := hide hop
  clear hv hO hT h hop
  go_enter Tryd.func49, Tryd.ntmps49
  go_wp2_with (first
    | (go_at_call 34; refine HO.out.mono ?_; rintro e w1 ⟨rfl, hr1⟩; have hz1 := hr1.read.size; simp at hz1; have hbr1 := hr1.read.box (Box.new w _ _) (by omega); have HR1 := hide hr1; have HBR1 := hide hbr1; clear hr1 hbr1)
    | (go_at_call 8; refine (parts_any op _ ((HT.out.below (below1 w _) HT.out.1).below ((HR1.out.read.below (by simp; omega)).trans ((Below.refl _ _).alloc (by omega) _)) hB0) HOP.out).mono ?_; rintro e w' ⟨rfl, rfl⟩))
  obtain ⟨h1, hh1⟩ : ∃ h1, w1.heap.size = h1 := ⟨_, rfl⟩
  have hzh : w.heap.size + 1 ≤ h1 := by omega
  go_loopw [] (fun wr => RInsRel op s1 w g B w.heap.size w1.heap.size (w1.heap.size + 1) wr) (fun wr => (partsN op).length - wr.iterPos (w1.heap.size + 1))
  case atStart =>
    refine ⟨0, none, 0, 0, Nat.zero_le _, ?_, (HBR1.out.alloc _).alloc _, ?_, ⟨Vec.nil _ _ _, HOP.out, by unfold i64R; simp [bare], by unfold i64R; simp [bare], by unfold i64R; simp [bare], by unfold i64R; simp [bare], by unfold i64R; simp [bare]⟩, ⟨(HR1.out.rs.alloc _).alloc _, (((Read.refl g w).alloc _).trans HR1.out.read).alloc _ |>.alloc _⟩⟩
    · have := World.iter_heap (w1.alloc (.cells (insBox (bare op) (.slice none 0 0)) 40)) (strOf (partsN op)) 0
      rw [World.size_alloc] at this
      exact this
    · exact (Box.new w1 (insBox (bare op) (.slice none 0 0)) 40).alloc _
  case round =>
    rw [hh1] at hrel ⊢
    obtain ⟨k, A, n, c, hk, hit, hbr, hbx, hi, hrr⟩ := hrel
    have hH := iter_lt hit
    have hpos0 := iterPos_of hit
    have hrsl := hrr.rs.lt
    by_cases hlt : k < (partsN op).length
    · obtain ⟨c0, hc0⟩ : ∃ c0, (partsN op)[k]? = some c0 := ⟨_, List.getElem?_eq_getElem hlt⟩
      have hlc := HL.out c0 (List.mem_of_getElem? hc0)
      have hnx : ∀ ty, (Instr.next (.pointer (some ⟨h1 + 1, 0, none⟩)) true ty).run Tryd.prog wr = _ := fun ty => next_letter wr (h1 + 1) k c0 _ ty hit HL.out hc0
      have hit2 := Lib.iterAt_heap wr (h1 + 1) (strOf (partsN op)) k (k + 1) hit
      have hbr2 := hbr.iter (k := h1 + 1) (s := strOf (partsN op)) (p := k + 1) (by omega)
      have hbx2 := hbx.iter (k := h1 + 1) (s := strOf (partsN op)) (p := k + 1) (by omega)
      have hi2 := hi.keep (S' := fun b => h1 + 1 < b ∧ b < wr.heap.size) (same_iter (k := h1 + 1) (s := strOf (partsN op)) (p := k + 1) (fun b hb => by omega)) (fun _ h => h)
      have hrr2 : ReadTo w g B (((partsN op).take k).foldl partT (bare op, s1)).2 (wr.iterAt (h1 + 1) (strOf (partsN op)) (k + 1)) := ⟨hrr.rs.iter (by omega), hrr.read.iter (by omega)⟩
      have hws := Lib.iterAt_size wr (h1 + 1) (strOf (partsN op)) (k + 1)
      obtain ⟨W1, hW1⟩ : ∃ W1, W1 = wr.iterAt (h1 + 1) (strOf (partsN op)) (k + 1) := ⟨_, rfl⟩
      rw [← hW1] at hnx hit2 hbr2 hbx2 hi2 hrr2 hws
      have hfo := fold_take (f := partT) (a := (bare op, s1)) hc0
      have HK := hide hlt
      have HP0 := hide hpos0
      generalize ((partsN op).take k).foldl partT (bare op, s1) = q at *
      obtain ⟨r, t⟩ := q
      simp only at hbx2 hi2 hrr2
      obtain ⟨y1, z1⟩ := hbx2.cell 1 (v := .int .i64 r.d) rfl
      obtain ⟨y2, z2⟩ := hbx2.cell 2 (v := .int .i64 r.a) rfl
      obtain ⟨y3, z3⟩ := hbx2.cell 3 (v := .int .i64 r.b) rfl
      obtain ⟨y4, z4⟩ := hbx2.cell 4 (v := .int .i64 r.n) rfl
      obtain ⟨y5, z5⟩ := hbx2.cell 5 (v := .int .i64 r.m) rfl
      obtain ⟨y6, z6⟩ := hbx2.cell 6 (v := .slice A n c) rfl
      have HBR := hide hbr2
      have HBX := hide hbx2
      have HIT := hide hit2
      have HI := hide hi2
      have HRR := hide hrr2
      have hq1 := hbx2.lt
      have hq2 := hbr2.lt
      have hby := hrr2.rs.byt
      have hW1s := iter_lt hit2
      clear hW1 hit hbr hbx hi hrr hit2 hbr2 hbx2 hi2 hrr2 hc0 hpos0 hlt
      unfold isLetter at hlc
      rcases hlc with rfl | rfl | rfl | rfl | rfl | rfl | rfl
      · have hpt := hide (show ((partsN op).take (k + 1)).foldl partT (bare op, s1) = ({ r with d := (numT t).1 }, (numT t).2) by rw [hfo]; exact part_num (by omega) (by omega))
        have hN := number_any' g B t W1 HRR.out.rs
        have hiR := (HI.out.2.setF 68 (numT_i64 hby) : InsR { r with d := (numT t).1 })
        generalize numT t = u at *
        have HN := hide hN
        clear hN hfo
        go_wp2_with (first
          | (go_at_call 43; refine (field_at _ 68 1 _ (by unfold isLetter; omega) rfl).mono ?_; rintro e w' ⟨rfl, rfl⟩)
          | (go_at_call 36; refine HN.out.mono ?_; rintro e w3 ⟨rfl, hr3⟩; have hb3 := hr3.read.box HBX.out (by omega); obtain ⟨y7, z7⟩ := hb3.cell 1 (v := .int .i64 r.d) rfl; have hq3 := hb3.lt; have HB3 := hide hb3; have hz3 := hr3.read.size; have HR3 := hide hr3; clear hb3 hr3))
        go_roundw
        case rel => exact ⟨k + 1, A, n, c, HK.out, iter_set (HR3.out.read.iterAt HIT.out (by omega)) (by omega), (HR3.out.read.box HBR.out (by omega)).other (by omega), by rw [hpt.out]; exact HB3.out.set 1 _, by rw [hpt.out]; exact ⟨by simpa using (HI.out.1.keep (S' := fun b => h1 + 1 < b ∧ b < w3.heap.size) (Same'.trans (HR3.out.read.same (fun b hb => by omega)) (same_set' (fun b hb => by omega))) (fun b hb => by omega)), hiR⟩, by rw [hpt.out]; exact ⟨HR3.out.rs.set (by omega), (HRR.out.read.trans HR3.out.read).set (Or.inl (by omega))⟩⟩
        case measure => rw [iterPos_of (iter_set (HR3.out.read.iterAt HIT.out (by omega)) (by omega)), HP0.out]; have := HK.out; omega
      · have hpt := hide (show ((partsN op).take (k + 1)).foldl partT (bare op, s1) = ({ r with a := (numT t).1 }, (numT t).2) by rw [hfo]; exact part_num (by omega) (by omega))
        have hN := number_any' g B t W1 HRR.out.rs
        have hiR := (HI.out.2.setF 65 (numT_i64 hby) : InsR { r with a := (numT t).1 })
        generalize numT t = u at *
        have HN := hide hN
        clear hN hfo
        go_wp2_with (first
          | (go_at_call 43; refine (field_at _ 65 2 _ (by unfold isLetter; omega) rfl).mono ?_; rintro e w' ⟨rfl, rfl⟩)
          | (go_at_call 36; refine HN.out.mono ?_; rintro e w3 ⟨rfl, hr3⟩; have hb3 := hr3.read.box HBX.out (by omega); obtain ⟨y7, z7⟩ := hb3.cell 2 (v := .int .i64 r.a) rfl; have hq3 := hb3.lt; have HB3 := hide hb3; have hz3 := hr3.read.size; have HR3 := hide hr3; clear hb3 hr3))
        go_roundw
        case rel => exact ⟨k + 1, A, n, c, HK.out, iter_set (HR3.out.read.iterAt HIT.out (by omega)) (by omega), (HR3.out.read.box HBR.out (by omega)).other (by omega), by rw [hpt.out]; exact HB3.out.set 2 _, by rw [hpt.out]; exact ⟨by simpa using (HI.out.1.keep (S' := fun b => h1 + 1 < b ∧ b < w3.heap.size) (Same'.trans (HR3.out.read.same (fun b hb => by omega)) (same_set' (fun b hb => by omega))) (fun b hb => by omega)), hiR⟩, by rw [hpt.out]; exact ⟨HR3.out.rs.set (by omega), (HRR.out.read.trans HR3.out.read).set (Or.inl (by omega))⟩⟩
        case measure => rw [iterPos_of (iter_set (HR3.out.read.iterAt HIT.out (by omega)) (by omega)), HP0.out]; have := HK.out; omega
      · have hpt := hide (show ((partsN op).take (k + 1)).foldl partT (bare op, s1) = ({ r with b := (numT t).1 }, (numT t).2) by rw [hfo]; exact part_num (by omega) (by omega))
        have hN := number_any' g B t W1 HRR.out.rs
        have hiR := (HI.out.2.setF 66 (numT_i64 hby) : InsR { r with b := (numT t).1 })
        generalize numT t = u at *
        have HN := hide hN
        clear hN hfo
        go_wp2_with (first
          | (go_at_call 43; refine (field_at _ 66 3 _ (by unfold isLetter; omega) rfl).mono ?_; rintro e w' ⟨rfl, rfl⟩)
          | (go_at_call 36; refine HN.out.mono ?_; rintro e w3 ⟨rfl, hr3⟩; have hb3 := hr3.read.box HBX.out (by omega); obtain ⟨y7, z7⟩ := hb3.cell 3 (v := .int .i64 r.b) rfl; have hq3 := hb3.lt; have HB3 := hide hb3; have hz3 := hr3.read.size; have HR3 := hide hr3; clear hb3 hr3))
        go_roundw
        case rel => exact ⟨k + 1, A, n, c, HK.out, iter_set (HR3.out.read.iterAt HIT.out (by omega)) (by omega), (HR3.out.read.box HBR.out (by omega)).other (by omega), by rw [hpt.out]; exact HB3.out.set 3 _, by rw [hpt.out]; exact ⟨by simpa using (HI.out.1.keep (S' := fun b => h1 + 1 < b ∧ b < w3.heap.size) (Same'.trans (HR3.out.read.same (fun b hb => by omega)) (same_set' (fun b hb => by omega))) (fun b hb => by omega)), hiR⟩, by rw [hpt.out]; exact ⟨HR3.out.rs.set (by omega), (HRR.out.read.trans HR3.out.read).set (Or.inl (by omega))⟩⟩
        case measure => rw [iterPos_of (iter_set (HR3.out.read.iterAt HIT.out (by omega)) (by omega)), HP0.out]; have := HK.out; omega
      · have hpt := hide (show ((partsN op).take (k + 1)).foldl partT (bare op, s1) = ({ r with n := (numT t).1 }, (numT t).2) by rw [hfo]; exact part_num (by omega) (by omega))
        have hN := number_any' g B t W1 HRR.out.rs
        have hiR := (HI.out.2.setF 78 (numT_i64 hby) : InsR { r with n := (numT t).1 })
        generalize numT t = u at *
        have HN := hide hN
        clear hN hfo
        go_wp2_with (first
          | (go_at_call 43; refine (field_at _ 78 4 _ (by unfold isLetter; omega) rfl).mono ?_; rintro e w' ⟨rfl, rfl⟩)
          | (go_at_call 36; refine HN.out.mono ?_; rintro e w3 ⟨rfl, hr3⟩; have hb3 := hr3.read.box HBX.out (by omega); obtain ⟨y7, z7⟩ := hb3.cell 4 (v := .int .i64 r.n) rfl; have hq3 := hb3.lt; have HB3 := hide hb3; have hz3 := hr3.read.size; have HR3 := hide hr3; clear hb3 hr3))
        go_roundw
        case rel => exact ⟨k + 1, A, n, c, HK.out, iter_set (HR3.out.read.iterAt HIT.out (by omega)) (by omega), (HR3.out.read.box HBR.out (by omega)).other (by omega), by rw [hpt.out]; exact HB3.out.set 4 _, by rw [hpt.out]; exact ⟨by simpa using (HI.out.1.keep (S' := fun b => h1 + 1 < b ∧ b < w3.heap.size) (Same'.trans (HR3.out.read.same (fun b hb => by omega)) (same_set' (fun b hb => by omega))) (fun b hb => by omega)), hiR⟩, by rw [hpt.out]; exact ⟨HR3.out.rs.set (by omega), (HRR.out.read.trans HR3.out.read).set (Or.inl (by omega))⟩⟩
        case measure => rw [iterPos_of (iter_set (HR3.out.read.iterAt HIT.out (by omega)) (by omega)), HP0.out]; have := HK.out; omega
      · have hpt := hide (show ((partsN op).take (k + 1)).foldl partT (bare op, s1) = ({ r with m := (numT t).1 }, (numT t).2) by rw [hfo]; exact part_num (by omega) (by omega))
        have hN := number_any' g B t W1 HRR.out.rs
        have hiR := (HI.out.2.setF 77 (numT_i64 hby) : InsR { r with m := (numT t).1 })
        generalize numT t = u at *
        have HN := hide hN
        clear hN hfo
        go_wp2_with (first
          | (go_at_call 43; refine (field_at _ 77 5 _ (by unfold isLetter; omega) rfl).mono ?_; rintro e w' ⟨rfl, rfl⟩)
          | (go_at_call 36; refine HN.out.mono ?_; rintro e w3 ⟨rfl, hr3⟩; have hb3 := hr3.read.box HBX.out (by omega); obtain ⟨y7, z7⟩ := hb3.cell 5 (v := .int .i64 r.m) rfl; have hq3 := hb3.lt; have HB3 := hide hb3; have hz3 := hr3.read.size; have HR3 := hide hr3; clear hb3 hr3))
        go_roundw
        case rel => exact ⟨k + 1, A, n, c, HK.out, iter_set (HR3.out.read.iterAt HIT.out (by omega)) (by omega), (HR3.out.read.box HBR.out (by omega)).other (by omega), by rw [hpt.out]; exact HB3.out.set 5 _, by rw [hpt.out]; exact ⟨by simpa using (HI.out.1.keep (S' := fun b => h1 + 1 < b ∧ b < w3.heap.size) (Same'.trans (HR3.out.read.same (fun b hb => by omega)) (same_set' (fun b hb => by omega))) (fun b hb => by omega)), hiR⟩, by rw [hpt.out]; exact ⟨HR3.out.rs.set (by omega), (HRR.out.read.trans HR3.out.read).set (Or.inl (by omega))⟩⟩
        case measure => rw [iterPos_of (iter_set (HR3.out.read.iterAt HIT.out (by omega)) (by omega)), HP0.out]; have := HK.out; omega
      · have hpt := hide (show ((partsN op).take (k + 1)).foldl partT (bare op, s1) = ({ r with n := (snumT t).1 }, (snumT t).2) by rw [hfo]; rfl)
        have hN := takes_any g B t W1 HRR.out.rs
        have hiR := (HI.out.2.setN (snumT_R hby) : InsR { r with n := (snumT t).1 })
        generalize snumT t = u at *
        have HN := hide hN
        clear hN hfo
        go_wp2_with (go_at_call 47; refine HN.out.mono ?_; rintro e w3 ⟨rfl, hr3⟩; have hb3 := hr3.read.box HBX.out (by omega); obtain ⟨y7, z7⟩ := hb3.cell 4 (v := .int .i64 r.n) rfl; have hq3 := hb3.lt; have HB3 := hide hb3; have hz3 := hr3.read.size; have HR3 := hide hr3; clear hb3 hr3)
        go_roundw
        case rel => exact ⟨k + 1, A, n, c, HK.out, iter_set (HR3.out.read.iterAt HIT.out (by omega)) (by omega), (HR3.out.read.box HBR.out (by omega)).other (by omega), by rw [hpt.out]; exact HB3.out.set 4 _, by rw [hpt.out]; exact ⟨by simpa using (HI.out.1.keep (S' := fun b => h1 + 1 < b ∧ b < w3.heap.size) (Same'.trans (HR3.out.read.same (fun b hb => by omega)) (same_set' (fun b hb => by omega))) (fun b hb => by omega)), hiR⟩, by rw [hpt.out]; exact ⟨HR3.out.rs.set (by omega), (HRR.out.read.trans HR3.out.read).set (Or.inl (by omega))⟩⟩
        case measure => rw [iterPos_of (iter_set (HR3.out.read.iterAt HIT.out (by omega)) (by omega)), HP0.out]; have := HK.out; omega
      · have hpt := hide (show ((partsN op).take (k + 1)).foldl partT (bare op, s1) = ({ r with args := (listT t).1 }, (listT t).2) by rw [hfo]; rfl)
        have hN := list_any' g B t W1 HRR.out.rs
        generalize listT t = u at *
        have HN := hide hN
        clear hN hfo
        go_wp2_with (go_at_call 55; refine HN.out.mono ?_; rintro e w3 ⟨v3, rfl, hv3, hr3⟩; obtain ⟨A3, c3, rfl, -, -⟩ := hv3.open'; have HV3 := hide hv3; clear hv3; have hb3 := hr3.read.box HBX.out (by omega); obtain ⟨y7, z7⟩ := hb3.cell 6 (v := .slice A n c) rfl; have hq3 := hb3.lt; have HB3 := hide hb3; have hz3 := hr3.read.size; have HR3 := hide hr3; clear hb3 hr3)
        go_roundw
        case rel => exact ⟨k + 1, A3, u.1.length, c3, HK.out, iter_set (HR3.out.read.iterAt HIT.out (by omega)) (by omega), (HR3.out.read.box HBR.out (by omega)).other (by omega), by rw [hpt.out]; exact HB3.out.set 6 _, by rw [hpt.out]; exact ⟨by simpa using (HV3.out.keep (S' := fun b => h1 + 1 < b ∧ b < w3.heap.size) (same_set' (fun b hb => by unfold Made at hb; omega)) (fun b hb => by unfold Made at hb; omega)), HI.out.2⟩, by rw [hpt.out]; exact ⟨HR3.out.rs.set (by omega), (HRR.out.read.trans HR3.out.read).set (Or.inl (by omega))⟩⟩
        case measure => rw [iterPos_of (iter_set (HR3.out.read.iterAt HIT.out (by omega)) (by omega)), HP0.out]; have := HK.out; omega
    · have hnx : ∀ ty, (Instr.next (.pointer (some ⟨h1 + 1, 0, none⟩)) true ty).run Tryd.prog wr = _ := fun ty => next_end wr (h1 + 1) k _ ty hit (by omega)
      rw [List.take_of_length_le (by omega)] at hbx hi hrr
      obtain ⟨q, hq⟩ : ∃ q, (partsN op).foldl partT (bare op, s1) = q := ⟨_, rfl⟩
      rw [hq] at hbx hi hrr
      obtain ⟨r, t⟩ := q
      simp only at hbx hi hrr
      have HQ := hide hq
      clear hq
      have y0 := (hbx.cell 0 (v := .int .i64 r.op) rfl).1
      have y1 := (hbx.cell 1 (v := .int .i64 r.d) rfl).1
      have y2 := (hbx.cell 2 (v := .int .i64 r.a) rfl).1
      have y3 := (hbx.cell 3 (v := .int .i64 r.b) rfl).1
      have y4 := (hbx.cell 4 (v := .int .i64 r.n) rfl).1
      have y5 := (hbx.cell 5 (v := .int .i64 r.m) rfl).1
      have y6 := (hbx.cell 6 (v := .slice A n c) rfl).1
      obtain ⟨x0, z0⟩ := hbr.cell 0 (v := .int .i64 0) rfl
      obtain ⟨x1, z1⟩ := hbr.cell 1 (v := .int .i64 0) rfl
      obtain ⟨x2, z2⟩ := hbr.cell 2 (v := .int .i64 0) rfl
      obtain ⟨x3, z3⟩ := hbr.cell 3 (v := .int .i64 0) rfl
      obtain ⟨x4, z4⟩ := hbr.cell 4 (v := .int .i64 0) rfl
      obtain ⟨x5, z5⟩ := hbr.cell 5 (v := .int .i64 0) rfl
      obtain ⟨x6, z6⟩ := hbr.cell 6 (v := .slice none 0 0) rfl
      have hq1 := hbx.lt
      have hq2 := hbr.lt
      have HBR := hide hbr
      have HI := hide hi
      have HRR := hide hrr
      clear hit hbr hbx hi hrr hpos0
      go_wp2
      have hB := ((((((HBR.out.set 0 (.int .i64 r.op)).set 1 (.int .i64 r.d)).set 2 (.int .i64 r.a)).set 3 (.int .i64 r.b)).set 4 (.int .i64 r.n)).set 5 (.int .i64 r.m)).set 6 (.slice A n c)
      have c0 := (hB.cell 0 (v := .int .i64 r.op) (by simp)).1
      have c1 := (hB.cell 1 (v := .int .i64 r.d) (by simp)).1
      have c2 := (hB.cell 2 (v := .int .i64 r.a) (by simp)).1
      have c3 := (hB.cell 3 (v := .int .i64 r.b) (by simp)).1
      have c4 := (hB.cell 4 (v := .int .i64 r.n) (by simp)).1
      have c5 := (hB.cell 5 (v := .int .i64 r.m) (by simp)).1
      have c6 := (hB.cell 6 (v := .slice A n c) (by simp)).1
      have hgl := HRR.out.rs.lt
      have hsame : Same' (fun b => h1 + 1 < b ∧ b < wr.heap.size) wr (((((((wr.setCell ⟨w.heap.size, 0, none⟩ (.int .i64 r.op)).setCell ⟨w.heap.size, 1, none⟩ (.int .i64 r.d)).setCell ⟨w.heap.size, 2, none⟩ (.int .i64 r.a)).setCell ⟨w.heap.size, 3, none⟩ (.int .i64 r.b)).setCell ⟨w.heap.size, 4, none⟩ (.int .i64 r.n)).setCell ⟨w.heap.size, 5, none⟩ (.int .i64 r.m)).setCell ⟨w.heap.size, 6, none⟩ (.slice A n c)) :=
        ((((((same_set' (fun b hb => by omega)).trans (same_set' (fun b hb => by omega))).trans (same_set' (fun b hb => by omega))).trans (same_set' (fun b hb => by omega))).trans (same_set' (fun b hb => by omega))).trans (same_set' (fun b hb => by omega))).trans (same_set' (fun b hb => by omega))
      refine bodyPost_ret (v := .agg #[.int .i64 r.op, .int .i64 r.d, .int .i64 r.a, .int .i64 r.b, .int .i64 r.n, .int .i64 r.m, .slice A n c]) (by simp [results, Tryd.results49, go_sem, c0, c1, c2, c3, c4, c5, c6]) rfl ⟨.slice A n c, by rw [HQ.out], ?_, ?_⟩
      · rw [HQ.out]
        exact HI.out.keep hsame (fun b hb => by unfold Made; simp only [World.size_setCell]; omega)
      · rw [HQ.out]
        exact ⟨((((((HRR.out.rs.set (by omega)).set (by omega)).set (by omega)).set (by omega)).set (by omega)).set (by omega)).set (by omega), ((((((HRR.out.read.set (Or.inl (Nat.le_refl _))).set (Or.inl (Nat.le_refl _))).set (Or.inl (Nat.le_refl _))).set (Or.inl (Nat.le_refl _))).set (Or.inl (Nat.le_refl _))).set (Or.inl (Nat.le_refl _))).set (Or.inl (Nat.le_refl _))⟩
end Go.Proofs.YtkimocfofihjbaaDoor
namespace Go.Proofs.YtkimocfofihjbaaDoor
open Go.RowKit

/-- n things of s cells in block h, of which those of l are laid. -/
def FillE {α : Type} (w : World) (h : Nat) (T : TypeId) (s n : Nat) (E : Array Value → Nat → α → Prop) (l : List α) : Prop :=
  ∃ cur : Array Value, Box w h cur T ∧ cur.size = n * s ∧ ∀ (j : Nat) (x : α), l[j]? = some x → E cur (j * s) x
section
variable {α : Type} {w w' : World} {h s n : Nat} {T : TypeId} {l : List α} {E E' : Array Value → Nat → α → Prop}
theorem FillE.new (w : World) (cs : Array Value) (T : TypeId) (hn : cs.size = n * s) : FillE (w.alloc (.cells cs T)) w.heap.size T s n E ([] : List α) := ⟨cs, Box.new w cs T, hn, fun j x hj => by simp at hj⟩
theorem FillE.lt (f : FillE w h T s n E l) : h < w.heap.size := by
  obtain ⟨cur, hb, -⟩ := f
  exact hb.lt
theorem FillE.keep (f : FillE w h T s n E l) (hk : w'.heap[h]? = w.heap[h]?) (hE : ∀ cur o x, E cur o x → E' cur o x) : FillE w' h T s n E' l := by
  obtain ⟨cur, hb, hs, hc⟩ := f
  exact ⟨cur, hk.trans hb, hs, fun j x hj => hE _ _ _ (hc j x hj)⟩
theorem FillE.cell (f : FillE w h T s n E l) {k i : Nat} (hk : k < n) (hi : i < s) : ∃ v, w.cell? ⟨h, k * s + i, none⟩ = some v ∧ w.frozen? ⟨h, k * s + i, none⟩ = false := by
  obtain ⟨cur, hb, hs, -⟩ := f
  have hle : (k + 1) * s ≤ n * s := Nat.mul_le_mul_right _ hk
  rw [Nat.add_mul] at hle
  obtain ⟨v, hv⟩ : ∃ v, cur[k * s + i]? = some v := ⟨_, Array.getElem?_eq_getElem (by omega)⟩
  exact ⟨v, hb.cell _ hv⟩
theorem FillE.put (f : FillE w h T s n E l) {k : Nat} {x : α} (hl : l.length = k)
    (hset : ∀ cur, Box w h cur T → cur.size = n * s → ∃ cur' : Array Value, Box w' h cur' T ∧ cur'.size = cur.size ∧ (∀ i, i < k * s → cur'[i]? = cur[i]?) ∧ E' cur' (k * s) x)
    (hE : ∀ (cur cur' : Array Value) (o : Nat) (y : α), (∀ i, i < s → cur'[o + i]? = cur[o + i]?) → E cur o y → E' cur' o y) : FillE w' h T s n E' (l ++ [x]) := by
  obtain ⟨cur, hb, hs, hc⟩ := f
  obtain ⟨cur', hb', hs', hu, hx⟩ := hset cur hb hs
  refine ⟨cur', hb', by omega, fun j y hj => ?_⟩
  by_cases hjl : j < l.length
  · rw [List.getElem?_append_left hjl] at hj
    refine hE cur cur' _ y (fun i hi => hu _ ?_) (hc j y hj)
    have : (j + 1) * s ≤ k * s := Nat.mul_le_mul_right _ (by omega)
    rw [Nat.add_mul] at this
    omega
  · have hjk : j = k := by
      have := (List.getElem?_eq_some_iff.1 hj).1
      simp at this; omega
    subst hjk
    rw [← hl, List.getElem?_append_right (Nat.le_refl _)] at hj
    simp at hj
    subst hj
    exact hx
theorem FillE.vec (f : FillE w h T s n E l) (hl : l.length = n) (hn : n ≤ 1000) {S : Nat → Prop} {P : Nat → Nat → α → Prop} (hS : S h) (hP : ∀ cur o x, Box w h cur T → E cur o x → P h o x) : Vec s P S (.slice (some ⟨h, 0, none⟩) n n) l := by
  obtain ⟨cur, hb, hs, hc⟩ := f
  subst hl
  refine ⟨_, _, rfl, Nat.le_refl _, by omega, fun _ => ⟨h, 0, rfl, hS, fun j x hj => ?_⟩⟩
  rw [Nat.zero_add]
  exact hP _ _ _ hb (hc j x hj)
end

def InsE (w : World) (S : Nat → Prop) (cur : Array Value) (o : Nat) (x : InsV) : Prop :=
  ∃ va, (cur[o]? = some (.int .i64 x.op) ∧ cur[o + 1]? = some (.int .i64 x.d) ∧ cur[o + 2]? = some (.int .i64 x.a) ∧ cur[o + 3]? = some (.int .i64 x.b) ∧ cur[o + 4]? = some (.int .i64 x.n) ∧ cur[o + 5]? = some (.int .i64 x.m) ∧ cur[o + 6]? = some va) ∧ InsI w S va x
theorem InsE.keep {w w' : World} {S S' : Nat → Prop} {cur cur' : Array Value} {o : Nat} {x : InsV} (h : InsE w S cur o x) (hc : ∀ i, i < 7 → cur'[o + i]? = cur[o + i]?) (hk : Same' S w w') (hS : ∀ b, S b → S' b) : InsE w' S' cur' o x := by
  obtain ⟨va, ⟨h0, h1, h2, h3, h4, h5, h6⟩, hi⟩ := h
  exact ⟨va, ⟨(hc 0 (by omega)).trans h0, (hc 1 (by omega)).trans h1, (hc 2 (by omega)).trans h2, (hc 3 (by omega)).trans h3, (hc 4 (by omega)).trans h4, (hc 5 (by omega)).trans h5, (hc 6 (by omega)).trans h6⟩, hi.keep hk hS⟩
theorem InsE.insC {w : World} {S : Nat → Prop} {cur : Array Value} {h o : Nat} {T : TypeId} {x : InsV} (hx : InsE w S cur o x) (hb : Box w h cur T) : InsC w S h o x := by
  obtain ⟨va, ⟨h0, h1, h2, h3, h4, h5, h6⟩, hi⟩ := hx
  exact ⟨va, ⟨(hb.cell _ h0).1, (hb.cell _ h1).1, (hb.cell _ h2).1, (hb.cell _ h3).1, (hb.cell _ h4).1, (hb.cell _ h5).1, (hb.cell _ h6).1⟩, hi⟩
theorem info_Ins : (Tryd.prog.info? 40).map (fun i => (i.zero, i.size, i.bytes)) = some (some (.agg (insBox (bare 0) (.slice none 0 0))), 7, 72) := by kernel_rfl
theorem info_Block : (Tryd.prog.info? 43).map (fun i => (i.zero, i.size, i.bytes)) = some (some (.agg #[.slice none 0 0]), 1, 24) := by kernel_rfl
theorem info_Func : (Tryd.prog.info? 38).map (fun i => (i.zero, i.size, i.bytes)) = some (some (.agg #[.slice none 0 0, .slice none 0 0, .int .i64 0, .int .i64 0, .slice none 0 0]), 5, 88) := by kernel_rfl

/-- The world in which seven cells of block h were laid, and five. -/
abbrev st7 (w : World) (h o : Nat) (v0 v1 v2 v3 v4 v5 v6 : Value) : World := ((((((w.setCell ⟨h, o, none⟩ v0).setCell ⟨h, o + 1, none⟩ v1).setCell ⟨h, o + 2, none⟩ v2).setCell ⟨h, o + 3, none⟩ v3).setCell ⟨h, o + 4, none⟩ v4).setCell ⟨h, o + 5, none⟩ v5).setCell ⟨h, o + 6, none⟩ v6
abbrev st5 (w : World) (h o : Nat) (v0 v1 v2 v3 v4 : Value) : World := ((((w.setCell ⟨h, o, none⟩ v0).setCell ⟨h, o + 1, none⟩ v1).setCell ⟨h, o + 2, none⟩ v2).setCell ⟨h, o + 3, none⟩ v3).setCell ⟨h, o + 4, none⟩ v4
section
variable {w w0 : World} {h o : Nat} {v0 v1 v2 v3 v4 v5 v6 : Value}
theorem Box.apart7 {k : Nat} {cs : Array Value} {T : TypeId} (b : Box w k cs T) (hk : k ≠ h) : Box (st7 w h o v0 v1 v2 v3 v4 v5 v6) k cs T := ((((((b.other hk).other hk).other hk).other hk).other hk).other hk).other hk
theorem Box.apart5 {k : Nat} {cs : Array Value} {T : TypeId} (b : Box w k cs T) (hk : k ≠ h) : Box (st5 w h o v0 v1 v2 v3 v4) k cs T := ((((b.other hk).other hk).other hk).other hk).other hk
theorem ReadTo.set {g B b j : Nat} {v : Value} {s : St} (r : ReadTo w0 g B s w) (hg : g < b) (hb : w0.heap.size ≤ b) : ReadTo w0 g B s (w.setCell ⟨b, j, none⟩ v) := ⟨r.rs.set hg, r.read.set (Or.inl hb)⟩
theorem ReadTo.apart7 {g B : Nat} {s : St} (r : ReadTo w0 g B s w) (hg : g < h) (hb : w0.heap.size ≤ h) : ReadTo w0 g B s (st7 w h o v0 v1 v2 v3 v4 v5 v6) := ((((((r.set hg hb).set hg hb).set hg hb).set hg hb).set hg hb).set hg hb).set hg hb
theorem ReadTo.apart5 {g B : Nat} {s : St} (r : ReadTo w0 g B s w) (hg : g < h) (hb : w0.heap.size ≤ h) : ReadTo w0 g B s (st5 w h o v0 v1 v2 v3 v4) := ((((r.set hg hb).set hg hb).set hg hb).set hg hb).set hg hb
theorem same_st7 {S : Nat → Prop} (hS : ∀ b, S b → b ≠ h) : Same' S w (st7 w h o v0 v1 v2 v3 v4 v5 v6) := ((((((same_set' hS).trans (same_set' hS)).trans (same_set' hS)).trans (same_set' hS)).trans (same_set' hS)).trans (same_set' hS)).trans (same_set' hS)
theorem same_st5 {S : Nat → Prop} (hS : ∀ b, S b → b ≠ h) : Same' S w (st5 w h o v0 v1 v2 v3 v4) := ((((same_set' hS).trans (same_set' hS)).trans (same_set' hS)).trans (same_set' hS)).trans (same_set' hS)
theorem size_st7 : (st7 w h o v0 v1 v2 v3 v4 v5 v6).heap.size = w.heap.size := by simp only [World.size_setCell]
theorem size_st5 : (st5 w h o v0 v1 v2 v3 v4).heap.size = w.heap.size := by simp only [World.size_setCell]
theorem Box.in7 {cur : Array Value} {T : TypeId} (b : Box w h cur T) (ho : o + 7 ≤ cur.size) : ∃ cur' : Array Value, Box (st7 w h o v0 v1 v2 v3 v4 v5 v6) h cur' T ∧ cur'.size = cur.size ∧ (∀ i, i < o → cur'[i]? = cur[i]?) ∧
    cur'[o]? = some v0 ∧ cur'[o + 1]? = some v1 ∧ cur'[o + 2]? = some v2 ∧ cur'[o + 3]? = some v3 ∧ cur'[o + 4]? = some v4 ∧ cur'[o + 5]? = some v5 ∧ cur'[o + 6]? = some v6 := by
  refine ⟨_, ((((((b.set o v0).set (o + 1) v1).set (o + 2) v2).set (o + 3) v3).set (o + 4) v4).set (o + 5) v5).set (o + 6) v6, by simp, fun i hi => ?_, ?_, ?_, ?_, ?_, ?_, ?_, ?_⟩
  · simp only [Array.getElem?_setIfInBounds]
    repeat rw [if_neg (by omega)]
  all_goals (simp only [Array.getElem?_setIfInBounds, Array.size_setIfInBounds]; simp; omega)
theorem Box.in5 {cur : Array Value} {T : TypeId} (b : Box w h cur T) (ho : o + 5 ≤ cur.size) : ∃ cur' : Array Value, Box (st5 w h o v0 v1 v2 v3 v4) h cur' T ∧ cur'.size = cur.size ∧ (∀ i, i < o → cur'[i]? = cur[i]?) ∧
    cur'[o]? = some v0 ∧ cur'[o + 1]? = some v1 ∧ cur'[o + 2]? = some v2 ∧ cur'[o + 3]? = some v3 ∧ cur'[o + 4]? = some v4 := by
  refine ⟨_, ((((b.set o v0).set (o + 1) v1).set (o + 2) v2).set (o + 3) v3).set (o + 4) v4, by simp, fun i hi => ?_, ?_, ?_, ?_, ?_, ?_⟩
  · simp only [Array.getElem?_setIfInBounds]
    repeat rw [if_neg (by omega)]
  all_goals (simp only [Array.getElem?_setIfInBounds, Array.size_setIfInBounds]; simp; omega)
theorem FillE.ins {T : TypeId} {n k : Nat} {l : List InsV} {x : InsV} {va : Value} {S : Nat → Prop} (f : FillE w h T 7 n (InsE w S) l) (hl : l.length = k) (hk : k < n) (hi : InsI w S va x) (hS : ∀ b, S b → b ≠ h) :
    FillE (st7 w h (k * 7) (.int .i64 x.op) (.int .i64 x.d) (.int .i64 x.a) (.int .i64 x.b) (.int .i64 x.n) (.int .i64 x.m) va) h T 7 n (InsE (st7 w h (k * 7) (.int .i64 x.op) (.int .i64 x.d) (.int .i64 x.a) (.int .i64 x.b) (.int .i64 x.n) (.int .i64 x.m) va) S) (l ++ [x]) :=
  f.put hl (fun cur hb hs => by
    obtain ⟨cur', hb', hs', hu, g0, g1, g2, g3, g4, g5, g6⟩ := hb.in7 (o := k * 7) (v0 := .int .i64 x.op) (v1 := .int .i64 x.d) (v2 := .int .i64 x.a) (v3 := .int .i64 x.b) (v4 := .int .i64 x.n) (v5 := .int .i64 x.m) (v6 := va) (by omega)
    exact ⟨cur', hb', hs', hu, va, ⟨g0, g1, g2, g3, g4, g5, g6⟩, hi.keep (same_st7 hS) (fun _ h => h)⟩)
    (fun cur cur' o y hc hy => hy.keep hc (same_st7 hS) (fun _ h => h))
end
end Go.Proofs.YtkimocfofihjbaaDoor
namespace Go.Proofs.YtkimocfofihjbaaDoor
open Go.RowKit

set_option maxHeartbeats 1000000 in
set_option maxRecDepth 100000 in
theorem rblk_any (g B : Nat) (s : St) (w : World) (hB0 : 0 < g) (hT : TabP w) (h : RS w g B s) :
    Calls Tryd.prog 37 #[.pointer (some ⟨g, 0, none⟩)] w fun e w' => ∃ v, e = .returned (.agg #[v]) ∧ InssV w' (Made w w') v (blkT s).1 ∧ ReadTo w g B (blkT s).2 w' := by
  have hgw := h.lt
  have h0 := h
  obtain ⟨A, c, l0, l1, l2, l3, l4, hb, hs, hc, hm, hL, hby, hB⟩ := h
  have H := hide (fun o => count_any l3 0 40 g B s (w.alloc o) (h0.alloc o) (hL.2.2.2.1.keep (fun b' o' hb' => World.cell?_alloc_lt _ _ _ (by show b' < _; omega)) (fun _ h => h)))
  have hcR := cntT_R (lo := 0) (hi := 40) hby (by omega)
  obtain ⟨m, hm'⟩ : ∃ m : Nat, (cntT 0 40 s).1 = (m : Int) := ⟨(cntT 0 40 s).1.toNat, by omega⟩
  have hv := hide (show blkT s = manyT insT m (cntT 0 40 s).2 by unfold blkT; rw [hm']; rfl)
  rw [hv.out]
  rw [hm'] at H hcR
  have hmk := mk_run 41 40 Tryd.underlying41 info_Ins (by omega) m (by omega)
  have hZs := size_madeCells (Value.cells (.agg (insBox (bare 0) (.slice none 0 0)))) (m * 7)
  generalize madeCells (Value.cells (.agg (insBox (bare 0) (.slice none 0 0)))) (m * 7) = Z at *
  have HZ := hide hZs
  have x5 := (hb.cell 5 (v := l3) rfl).1
  obtain ⟨-, -, -, a3, -, -, -, -, c3, -, -, -, -, rfl, -⟩ := hL.open'
  generalize (cntT 0 40 s).2 = t at *
  have HT := hide hT
  clear hb hs hL hby h0 hZs hv hm' hT
  go_enter Tryd.func37, Tryd.ntmps37
  go_wp2_with (go_at_call 22; refine (H.out _).mono ?_; rintro e w1 ⟨rfl, hr⟩; have hbr1 := hr.read.box (Box.new w _ _) (by omega); have HBR1 := hide hbr1; have HR1 := hide hr; have hz1 := hr.read.size; simp at hz1; clear hr hbr1)
  obtain ⟨h1, hh1⟩ : ∃ h1, w1.heap.size = h1 := ⟨_, rfl⟩
  go_loopw [17] (fun i wr => ∃ k : Nat, k ≤ m ∧ i = .int .i64 k ∧ ReadTo w g B (manyT insT k t).2 wr ∧ Box wr w.heap.size #[.slice none 0 0] 43 ∧ Box wr (w1.heap.size + 1) #[.slice (some ⟨w1.heap.size, 0, none⟩) m m] 43 ∧
    FillE wr w1.heap.size 40 7 m (InsE wr (fun b => w1.heap.size < b ∧ b < wr.heap.size)) (manyT insT k t).1) (fun i _ => m - (intOf i).toNat)
  case atStart =>
    refine ⟨0, Nat.zero_le _, rfl, ⟨(HR1.out.rs.alloc _).alloc _, ((((Read.refl g w).alloc _).trans HR1.out.read).alloc _).alloc _⟩, (HBR1.out.alloc _).alloc _, ?_, ?_⟩
    · have := Box.new (w1.alloc (.cells Z 40)) #[.slice (some ⟨w1.heap.size, 0, none⟩) m m] 43
      rw [World.size_alloc] at this
      exact this
    · exact (FillE.new (E := InsE (w1.alloc (.cells Z 40)) (fun b => w1.heap.size < b ∧ b < w1.heap.size)) w1 Z _ HZ.out).keep (Below.heap_alloc _ _ _ (by simp)) (fun cur o x hx => hx.keep (fun _ _ => rfl) (fun b o hb => by omega) (fun b hb => by omega))
  case round =>
    rw [hh1] at hrel ⊢
    obtain ⟨k, hk, rfl, hrr, hbr, hbx, hf⟩ := hrel
    have hfl := hf.lt
    have hbl := hbx.lt
    have hrl := hrr.rs.lt
    by_cases hlt : k < m
    · have hst := hide (manyT_st insT k t)
      have hls := hide (manyT_ls insT k t)
      have hlen := manyT_len insT k t
      have hN := fun q => rins_any g B (manyT insT k t).2 (wr.drewN q) hB0 (HT.out.below ((hrr.read.drewN q).below (by omega)) hB0) hrr.rs
      have HF := hide (fun w3 (h3 : Read g wr w3) => hf.keep (w' := w3) (E' := InsE w3 (fun b => h1 < b ∧ b < w3.heap.size)) (h3.block _ hfl (by omega)) (fun cur o x hx => hx.keep (fun _ _ => rfl) (h3.same (fun b hb => by omega)) (fun b hb => by have := h3.size; omega)))
      have HRR := hide hrr
      have HBX := hide hbx
      have HBR := hide hbr
      have q0 := (hbx.cell 0 (v := .slice (some ⟨h1, 0, none⟩) m m) rfl).1
      have q1 : (0 : Int) ≤ (k : Int) := by omega
      have q2 : (k : Int) < (m : Int) := by omega
      have q3 : h1 ≠ h1 + 1 := by omega
      have q4 : h1 + 1 ≠ h1 := by omega
      generalize manyT insT k t = q at *
      generalize insT q.2 = u at *
      have HN := hide hN
      clear hN hf hrr hbx hbr
      go_wp2
      go_region_held3 (fun w' => w'.cell? ⟨h1 + 1, 0, none⟩ = some (.slice (some ⟨h1, 0, none⟩) m m)) (first | go_keep | (exact hb3) )
        (first
          | (go_at_call 49; refine (HN.out 1).mono ?_; rintro e w3 ⟨va, rfl, hi3, hr3⟩; obtain ⟨A3, c3', rfl⟩ := hi3.open'; have hr3' : ReadTo wr g B u.2 w3 := ⟨hr3.rs, ((Read.refl g wr).drewN 1).trans hr3.read⟩; have hb3 := ((hr3'.read.box HBX.out (by omega)).cell 0 (v := .slice (some ⟨h1, 0, none⟩) m m) rfl).1; have hf3 := HF.out _ hr3'.read; obtain ⟨v0, e0, f0⟩ := hf3.cell (i := 0) hlt (by omega); obtain ⟨v1, e1, f1⟩ := hf3.cell (i := 1) hlt (by omega); obtain ⟨v2, e2, f2⟩ := hf3.cell (i := 2) hlt (by omega); obtain ⟨v3, e3, f3⟩ := hf3.cell (i := 3) hlt (by omega); obtain ⟨v4, e4, f4⟩ := hf3.cell (i := 4) hlt (by omega); obtain ⟨v5, e5, f5⟩ := hf3.cell (i := 5) hlt (by omega); obtain ⟨v6, e6, f6⟩ := hf3.cell (i := 6) hlt (by omega); rw [Nat.add_zero] at e0 f0; have HF3 := hide hf3; have HR3 := hide hr3'; have HI3 := hide hi3; have hl3 := hf3.lt; clear hf3 hr3 hr3' hi3))
      have hw3 := HR3.out.read.size
      go_wp2
      go_roundw
      case rel =>
        refine ⟨k + 1, by omega, by go_num, ?_, ?_, ?_, ?_⟩
        · rw [hst.out]; exact (HRR.out.trans HR3.out).apart7 (by omega) (by omega)
        · exact (HR3.out.read.box HBR.out (by omega)).apart7 (by omega)
        · exact (HR3.out.read.box HBX.out (by omega)).apart7 (by omega)
        · rw [hls.out]
          exact (FillE.ins HF3.out hlen hlt (HI3.out.keep (fun _ _ _ => rfl) (fun b hb => ⟨by have : wr.heap.size ≤ b := hb.1; omega, hb.2⟩)) (fun b hb => by omega)).keep rfl (fun cur o x hx => hx.keep (fun _ _ => rfl) (fun _ _ _ => rfl) (fun b hb => by rw [size_st7]; exact hb))
      case measure => simp [intOf]; omega
    · have hkm : k = m := by omega
      subst hkm
      have hx0 := (hbx.cell 0 (v := .slice (some ⟨h1, 0, none⟩) k k) rfl).1
      obtain ⟨y0, z0⟩ := hbr.cell 0 (v := .slice none 0 0) rfl
      have hend : InssV wr (fun b => h1 ≤ b ∧ b < wr.heap.size) (.slice (some ⟨h1, 0, none⟩) k k) (manyT insT k t).1 := hf.vec (manyT_len insT k t) (by omega) ⟨Nat.le_refl _, hfl⟩ (fun cur o x hb hx => (hx.keep (S' := fun b => h1 ≤ b ∧ b < wr.heap.size) (fun _ _ => rfl) (fun _ _ _ => rfl) (fun b hb => by omega)).insC hb)
      have HEND := hide hend
      have HRR := hide hrr
      have HBR := hide hbr
      clear hf hrr hbx hbr hend
      go_wp2
      have hB := (HBR.out.set 0 (.slice (some ⟨h1, 0, none⟩) k k))
      have c0 := (hB.cell 0 (v := .slice (some ⟨h1, 0, none⟩) k k) (by simp)).1
      refine bodyPost_ret (v := .agg #[.slice (some ⟨h1, 0, none⟩) k k]) (by simp [results, Tryd.results37, go_sem, c0]) rfl ⟨_, rfl, ?_, HRR.out.set (by omega) (Nat.le_refl _)⟩
      exact HEND.out.keep (same_set' (fun b hb => by omega)) (fun b hb => by unfold Made; rw [World.size_setCell]; omega)
end Go.Proofs.YtkimocfofihjbaaDoor
namespace Go.Proofs.YtkimocfofihjbaaDoor
open Go.RowKit

theorem varT_R {s : St} (h : Byt s) : i64R (varT s).1.1 ∧ i64R (varT s).1.2 := by
  have h1 := onlyT_R (may := kindB) (er := 5) h
  have hb : Byt (onlyT kindB 5 s).2 := by
    unfold onlyT
    split
    · split
      · exact numT_byt h
      · exact numT_byt h
    · exact numT_byt h
  have h2 := numT_R hb
  unfold varT
  split
  · exact ⟨by unfold i64R; simp, by unfold i64R; simp only; omega⟩
  · exact ⟨by unfold i64R; simp only; omega, by unfold i64R; simp⟩
def BlkE (w : World) (S : Nat → Prop) (cur : Array Value) (o : Nat) (x : List InsV) : Prop := ∃ v, cur[o]? = some v ∧ InssV w S v x
theorem BlkE.keep {w w' : World} {S S' : Nat → Prop} {cur cur' : Array Value} {o : Nat} {x : List InsV} (h : BlkE w S cur o x) (hc : ∀ i, i < 1 → cur'[o + i]? = cur[o + i]?) (hk : Same' S w w') (hS : ∀ b, S b → S' b) : BlkE w' S' cur' o x := by
  obtain ⟨v, h0, hi⟩ := h
  exact ⟨v, (hc 0 (by omega)).trans h0, InssV.keep hi hk hS⟩
theorem FillE.blk {w : World} {h : Nat} {T : TypeId} {n k : Nat} {l : List (List InsV)} {x : List InsV} {v : Value} {S : Nat → Prop} (f : FillE w h T 1 n (BlkE w S) l) (hl : l.length = k) (hk : k < n) (hi : InssV w S v x) (hS : ∀ b, S b → b ≠ h) :
    FillE (w.setCell ⟨h, k, none⟩ v) h T 1 n (BlkE (w.setCell ⟨h, k, none⟩ v) S) (l ++ [x]) :=
  f.put hl (fun cur hb hs => ⟨cur.setIfInBounds k v, hb.set k v, by simp, fun i hi => by rw [Array.getElem?_setIfInBounds_ne (by omega)], v, by rw [Nat.mul_one, Array.getElem?_setIfInBounds_self, if_pos (by omega)], InssV.keep hi (same_set' hS) (fun _ h => h)⟩)
    (fun cur cur' o y hc hy => hy.keep hc (same_set' hS) (fun _ h => h))
abbrev fun0 : Array Value := #[.slice none 0 0, .slice none 0 0, .int .i64 0, .int .i64 0, .slice none 0 0]
abbrev funBox (hk hb n m : Nat) (p r : Int) (v : Value) : Array Value := #[.slice (some ⟨hk, 0, none⟩) n n, .slice (some ⟨hb, 0, none⟩) m m, .int .i64 p, .int .i64 r, v]

/-- Behind the two slices and the function are laid. -/
def RFun1 (w : World) (g B n h1 : Nat) (t : St) (f : Value) (wx : World) : Prop :=
  ∃ hk hb hf, f = .pointer (some ⟨hf, 0, none⟩) ∧ (hk ≠ hb ∧ hk ≠ hf ∧ hb ≠ hf) ∧ (h1 ≤ hk ∧ h1 ≤ hb ∧ h1 ≤ hf) ∧ ReadTo w g B t wx ∧ Box wx w.heap.size fun0 38 ∧ FillI wx hk 3 n [] ∧ FillI wx hb 3 n [] ∧ Box wx hf (funBox hk hb n n 0 0 (.slice none 0 0)) 38

theorem al3 (w : World) (o1 o2 o3 : Obj) : (((w.alloc o1).alloc o2).alloc o3).drew.heap[w.heap.size]? = some o1 ∧ (((w.alloc o1).alloc o2).alloc o3).drew.heap[w.heap.size + 1]? = some o2 ∧ (((w.alloc o1).alloc o2).alloc o3).drew.heap[w.heap.size + 1 + 1]? = some o3 := by
  have h1 := heap_alloc_new w o1
  have h2 := heap_alloc_new (w.alloc o1) o2
  have h3 := heap_alloc_new ((w.alloc o1).alloc o2) o3
  simp only [World.size_alloc] at h2 h3
  refine ⟨?_, ?_, h3⟩
  · exact (Below.heap_alloc _ _ _ (by simp only [World.size_alloc]; omega)).trans ((Below.heap_alloc _ _ _ (by simp only [World.size_alloc]; omega)).trans h1)
  · exact (Below.heap_alloc _ _ _ (by simp only [World.size_alloc]; omega)).trans h2
theorem rfun1_mk {w w0 w1 : World} {g B n hk hb hf : Nat} {t : St} {Z : Array Value} {o1 o2 o3 : Obj} (hr : ReadTo w0 g B t w1) (h0 : Read g w w0) (hres : Box w1 w.heap.size fun0 38) (hZ : Z.size = n)
    (hd : hk ≠ hb ∧ hk ≠ hf ∧ hb ≠ hf) (hge : w1.heap.size ≤ hk ∧ w1.heap.size ≤ hb ∧ w1.heap.size ≤ hf)
    (h1 : (((w1.alloc o1).alloc o2).alloc o3).drew.heap[hk]? = some (.cells Z 3)) (h2 : (((w1.alloc o1).alloc o2).alloc o3).drew.heap[hb]? = some (.cells Z 3)) (h3 : (((w1.alloc o1).alloc o2).alloc o3).drew.heap[hf]? = some (.cells (funBox hk hb n n 0 0 (.slice none 0 0)) 38)) :
    RFun1 w g B n w1.heap.size t (.pointer (some ⟨hf, 0, none⟩)) (((w1.alloc o1).alloc o2).alloc o3).drew :=
  ⟨hk, hb, hf, rfl, hd, hge, ⟨((hr.rs.alloc o1).alloc o2).alloc o3, ((((h0.trans hr.read).alloc o1).alloc o2).alloc o3).drewN 1⟩, ((hres.alloc o1).alloc o2).alloc o3,
    ⟨Z, h1, hZ, fun j x hj => by simp at hj⟩, ⟨Z, h2, hZ, fun j x hj => by simp at hj⟩, h3⟩

set_option maxHeartbeats 2000000 in
set_option maxRecDepth 100000 in
theorem rfun_any (g B : Nat) (s : St) (w : World) (hB0 : 0 < g) (hT : TabP w) (h : RS w g B s) :
    Calls Tryd.prog 23 #[.pointer (some ⟨g, 0, none⟩)] w fun e w' => ∃ vk vb vs, e = .returned (.agg #[vk, vb, .int .i64 (funT s).1.params, .int .i64 (funT s).1.result, vs]) ∧ FunI w' (Made w w') vk vb vs (funT s).1 ∧ ReadTo w g B (funT s).2 w' := by
  have hgw := h.lt
  have h0 := h
  obtain ⟨A, c, l0, l1, l2, l3, l4, hb, hs, hc, hm, hL, hby, hB⟩ := h
  have H := hide (fun o => count_any l1 0 48 g B s (w.alloc o) (h0.alloc o) (hL.2.1.keep (fun b' o' hb' => World.cell?_alloc_lt _ _ _ (by show b' < _; omega)) (fun _ h => h)))
  have hcR := cntT_R (lo := 0) (hi := 48) hby (by omega)
  obtain ⟨n, hn'⟩ : ∃ n : Nat, (cntT 0 48 s).1 = (n : Int) := ⟨(cntT 0 48 s).1.toNat, by omega⟩
  have hv := hide (show varsT s = manyT varT n (cntT 0 48 s).2 by unfold varsT; rw [hn']; rfl)
  rw [hn'] at H hcR
  have hmk := mk_run 35 3 Tryd.underlying35 info_i64 (by omega) n (by omega)
  have hZs : (madeCells (Value.cells (.int .i64 0)) (n * 1)).size = n := by rw [size_madeCells]; omega
  generalize madeCells (Value.cells (.int .i64 0)) (n * 1) = Z at *
  have HZ := hide hZs
  have x5 := (hb.cell 3 (v := l1) rfl).1
  obtain ⟨-, a1, -, -, -, -, c1, -, -, -, -, rfl, -, -, -⟩ := hL.open'
  have HFT := hide (show funT s = (⟨(varsT s).1.map (·.1), (varsT s).1.map (·.2), (numT (varsT s).2).1, (numT (numT (varsT s).2).2).1, (blksT (numT (numT (varsT s).2).2).2).1⟩, (blksT (numT (numT (varsT s).2).2).2).2) from rfl)
  rw [hv.out] at HFT
  obtain ⟨F, hF⟩ : ∃ F, funT s = F := ⟨_, rfl⟩
  rw [hF] at HFT ⊢
  generalize (cntT 0 48 s).2 = t at *
  have HT := hide hT
  clear hb hs hL hby h0 hZs hv hn' hT hF
  go_enter Tryd.func23, Tryd.ntmps23
  go_upto_region 2 with (go_at_call 22; refine (H.out _).mono ?_; rintro e w1 ⟨rfl, hr⟩; have hbr1 := hr.read.box (Box.new w _ _) (by omega); have HBR1 := hide hbr1; have HR1 := hide hr; have hz1 := hr.read.size; simp at hz1; clear hr hbr1)
  go_cut [4] from 14 to 18 (fun f wx => RFun1 w g B n w1.heap.size t f wx)
  case first =>
    go_region
    all_goals
      go_wp2_with fail
      go_meet
    · exact rfun1_mk HR1.out ((Read.refl g w).alloc _) HBR1.out HZ.out (by omega) (by omega) (al3 _ _ _ _).1 (al3 _ _ _ _).2.1 (al3 _ _ _ _).2.2
    · exact rfun1_mk HR1.out ((Read.refl g w).alloc _) HBR1.out HZ.out (by omega) (by omega) (al3 _ _ _ _).1 (al3 _ _ _ _).2.2 (al3 _ _ _ _).2.1
    · exact rfun1_mk HR1.out ((Read.refl g w).alloc _) HBR1.out HZ.out (by omega) (by omega) (al3 _ _ _ _).2.1 (al3 _ _ _ _).1 (al3 _ _ _ _).2.2
    · exact rfun1_mk HR1.out ((Read.refl g w).alloc _) HBR1.out HZ.out (by omega) (by omega) (al3 _ _ _ _).2.2 (al3 _ _ _ _).1 (al3 _ _ _ _).2.1
    · exact rfun1_mk HR1.out ((Read.refl g w).alloc _) HBR1.out HZ.out (by omega) (by omega) (al3 _ _ _ _).2.1 (al3 _ _ _ _).2.2 (al3 _ _ _ _).1
    · exact rfun1_mk HR1.out ((Read.refl g w).alloc _) HBR1.out HZ.out (by omega) (by omega) (al3 _ _ _ _).2.2 (al3 _ _ _ _).2.1 (al3 _ _ _ _).1
  case rest =>
    obtain ⟨hk, hb, hf, rfl, hd, hge, hrr, hres, hfk, hfb, hbf⟩ := hcut
    clear H HBR1 x5 hmk HZ
    have hz1' : w.heap.size < w1.heap.size := by omega
    obtain ⟨h1, hh1⟩ : ∃ h1, w1.heap.size = h1 := ⟨_, rfl⟩
    rw [hh1] at hge hz1'
    clear hh1 hz1 HR1
    have HRR := hide hrr; have HRES := hide hres; have HFK := hide hfk; have HFB := hide hfb; have HBF := hide hbf
    clear hrr hres hfk hfb hbf
    go_wp2
    go_loopw [20] (fun i wr => ∃ k : Nat, k ≤ n ∧ i = .int .i64 k ∧ ReadTo w g B (manyT varT k t).2 wr ∧ Box wr w.heap.size fun0 38 ∧ Box wr hf (funBox hk hb n n 0 0 (.slice none 0 0)) 38 ∧ FillI wr hk 3 n ((manyT varT k t).1.map (·.1)) ∧ FillI wr hb 3 n ((manyT varT k t).1.map (·.2))) (fun i _ => n - (intOf i).toNat)
    case atStart => exact ⟨0, Nat.zero_le _, rfl, HRR.out, HRES.out, HBF.out, HFK.out, HFB.out⟩
    case round =>
      obtain ⟨k, hkn, rfl, hrr, hres, hbf, hfk, hfb⟩ := hrel
      have hlk := hfk.lt
      have hlb := hfb.lt
      have hlf := hbf.lt
      have hlr := hres.lt
      have hrl := hrr.rs.lt
      by_cases hlt : k < n
      · have hst := hide (manyT_st varT k t)
        have hls := hide (manyT_ls varT k t)
        have hlen := manyT_len varT k t
        have hN := fun q => variable_any g B (manyT varT k t).2 (wr.drewN q) hrr.rs
        have hvR := varT_R hrr.rs.byt
        have HFK2 := hide (fun w3 (h3 : Read g wr w3) => hfk.keep (h3.block _ hlk (by omega)))
        have HFB2 := hide (fun w3 (h3 : Read g wr w3) => hfb.keep (h3.block _ hlb (by omega)))
        have HRR2 := hide hrr
        have HRES2 := hide hres
        have HBF2 := hide hbf
        have q0 := (hbf.cell 0 (v := .slice (some ⟨hk, 0, none⟩) n n) rfl).1
        have q1 := (hbf.cell 1 (v := .slice (some ⟨hb, 0, none⟩) n n) rfl).1
        have q2 : (0 : Int) ≤ (k : Int) := by omega
        have q3 : (k : Int) < (n : Int) := by omega
        obtain ⟨d1, d2, d3⟩ := hd
        have d4 := d1.symm
        have d5 := d2.symm
        have d6 := d3.symm
        generalize manyT varT k t = q at *
        generalize varT q.2 = u at *
        have HN := hide hN
        clear hN hfk hfb hrr hres hbf
        go_wp2
        go_region_held3 (fun w' => w'.cell? ⟨hf, 0, none⟩ = some (.slice (some ⟨hk, 0, none⟩) n n) ∧ w'.cell? ⟨hf, 1, none⟩ = some (.slice (some ⟨hb, 0, none⟩) n n)) (first | go_keep | (exact hb3))
          (first
            | (go_at_call 35; refine (HN.out 1).mono ?_; rintro e w3 ⟨rfl, hr3⟩; have hr3' : ReadTo wr g B u.2 w3 := ⟨hr3.rs, ((Read.refl g wr).drewN 1).trans hr3.read⟩; have hbx3 := hr3'.read.box HBF2.out (by omega); have hb3 := And.intro (hbx3.cell 0 (v := .slice (some ⟨hk, 0, none⟩) n n) rfl).1 (hbx3.cell 1 (v := .slice (some ⟨hb, 0, none⟩) n n) rfl).1; have hk3 := HFK2.out _ hr3'.read; have hv3 := HFB2.out _ hr3'.read; obtain ⟨v0, e0, f0⟩ := hk3.cell hlt; obtain ⟨v1, e1, f1⟩ := hv3.cell hlt; have HK3 := hide hk3; have HV3 := hide hv3; have HR3 := hide hr3'; have hw3 := hr3'.read.size; clear hk3 hv3 hr3 hr3' hbx3))
        go_wp2
        go_roundw
        case rel =>
          refine ⟨k + 1, by omega, by go_num, ?_, ?_, ?_, ?_, ?_⟩
          · rw [hst.out]; exact ((HRR2.out.trans HR3.out).set (by omega) (by omega)).set (by omega) (by omega)
          · exact ((HR3.out.read.box HRES2.out (by omega)).other (by omega)).other (by omega)
          · exact ((HR3.out.read.box HBF2.out (by omega)).other (by omega)).other (by omega)
          · rw [hls.out, List.map_append]
            exact (HK3.out.set hlt (by rw [List.length_map]; exact hlen) hvR.1).keep (heap_setCell_other _ ⟨hb, k, none⟩ _ _ d1)
          · rw [hls.out, List.map_append]
            exact (HV3.out.keep (heap_setCell_other _ ⟨hk, k, none⟩ _ _ d4)).set hlt (by rw [List.length_map]; exact hlen) hvR.2
        case measure => simp [intOf]; omega
      · have hkn' : k = n := by omega
        subst hkn'
        obtain ⟨wo, rfl⟩ : ∃ wo, wo = wr := ⟨_, rfl⟩
        have hK := hfk.ints (by rw [List.length_map]; exact manyT_len varT k t) (by omega) (S := fun b => b = hk) rfl
        have hV := hfb.ints (by rw [List.length_map]; exact manyT_len varT k t) (by omega) (S := fun b => b = hb) rfl
        have hN1 := number_any' g B (manyT varT k t).2 wo hrr.rs
        generalize manyT varT k t = q at *
        obtain ⟨vs, s1⟩ := q
        simp only at *
        have hby1 := hrr.rs.byt
        have hp1 := numT_i64 hby1
        have hp2 := numT_i64 (numT_byt hby1)
        have HN1 := hide hN1
        have HN2 := hide (fun w2 (h2 : RS w2 g B (numT s1).2) => number_any' g B (numT s1).2 w2 h2)
        have hby2 := numT_byt (numT_byt hby1)
        have HC4 := hide (fun w3 (h3 : RS w3 g B (numT (numT s1).2).2) (lv : Value) (hl : LimC w3 (· < B) lv 0 40) => count_any lv 0 40 g B (numT (numT s1).2).2 w3 h3 hl)
        have hcR2 := cntT_R (lo := 0) (hi := 40) hby2 (by omega)
        obtain ⟨m, hm'⟩ : ∃ m : Nat, (cntT 0 40 (numT (numT s1).2).2).1 = (m : Int) := ⟨(cntT 0 40 (numT (numT s1).2).2).1.toNat, by omega⟩
        rw [hm'] at HC4 hcR2
        have HBL := hide (show blksT (numT (numT s1).2).2 = manyT blkT m (cntT 0 40 (numT (numT s1).2).2).2 by unfold blksT; rw [hm']; rfl)
        rw [HBL.out] at HFT
        have hmk2 := mk_run 36 43 Tryd.underlying36 info_Block (by omega) m (by omega)
        have hZs2 := size_madeCells (Value.cells (.agg #[.slice none 0 0])) (m * 1)
        generalize madeCells (Value.cells (.agg #[.slice none 0 0])) (m * 1) = Z2 at *
        have HZ2 := hide hZs2
        generalize (cntT 0 40 (numT (numT s1).2).2).2 = s4 at *
        generalize numT (numT s1).2 = u2 at *
        generalize numT s1 = u1 at *
        have HKI := hide hK; have HVI := hide hV; have HRR2 := hide hrr; have HRES2 := hide hres; have HBF2 := hide hbf
        obtain ⟨d1, d2, d3⟩ := hd
        clear hN1 hfk hfb hrr hres hbf hK hV hby1 hby2 hm' hZs2
        go_upto_region 9 with (go_at_call 36; refine HN1.out.mono ?_; rintro e w2 ⟨rfl, hr2⟩; have hb2 := hr2.read.box HBF2.out (by omega); obtain ⟨e2, f2⟩ := hb2.cell 2 (v := .int .i64 0) rfl; have hl2 := hb2.lt; have HB2 := hide hb2; have HR2 := hide hr2; clear hb2 hr2)
        have hrsa := HR2.out.rs.set (b := hf) (j := 2) (v := .int .i64 u1.1) (by omega)
        have H9 := hide (HN2.out _ hrsa)
        have HBa := hide (HB2.out.set 2 (.int .i64 u1.1))
        have hza : w2.heap.size = (w2.setCell ⟨hf, 2, none⟩ (.int .i64 u1.1)).heap.size := (World.size_setCell ..).symm
        have HRa := hide (show ReadTo w g B u1.2 (w2.setCell ⟨hf, 2, none⟩ (.int .i64 u1.1)) from (HRR2.out.trans HR2.out).set (by omega) (by omega))
        have HKa := hide (HKI.out.keep (S' := fun b => b = hk) (Same'.trans (HR2.out.read.same (fun b hb => by omega)) (same_set' (g := hf) (j := 2) (v := .int .i64 u1.1) (fun b hb => by omega))) (fun _ h => h))
        have HVa := hide (HVI.out.keep (S' := fun b => b = hb) (Same'.trans (HR2.out.read.same (fun b hb => by omega)) (same_set' (g := hf) (j := 2) (v := .int .i64 u1.1) (fun b hb => by omega))) (fun _ h => h))
        have HRESa := hide ((HR2.out.read.box HRES2.out (by omega)).other (g := hf) (j := 2) (v := .int .i64 u1.1) (by omega))
        have hsz2 := HR2.out.read.size
        clear hrsa HB2 HR2 e2 f2 HKI HVI HRES2 HRR2 HBF2 HN1
        obtain ⟨wa, hwa⟩ : ∃ wa, w2.setCell ⟨hf, 2, none⟩ (.int .i64 u1.1) = wa := ⟨_, rfl⟩
        rw [hwa] at H9 HBa HRa HKa HVa HRESa hza ⊢
        clear hwa
        go_upto_region 10 with (go_at_call 36; refine H9.out.mono ?_; rintro e w3 ⟨rfl, hr3⟩; have hb3 := hr3.read.box HBa.out (by omega); obtain ⟨e3, f3⟩ := hb3.cell 3 (v := .int .i64 0) (by simp); have hl3 := hb3.lt; have HB3 := hide hb3; have HR3 := hide hr3; clear hb3 hr3)
        have hza3 := HR3.out.read.size
        have HBb := hide (HB3.out.set 3 (.int .i64 u2.1))
        have HRb := hide (show ReadTo w g B u2.2 (w3.setCell ⟨hf, 3, none⟩ (.int .i64 u2.1)) from (HRa.out.trans HR3.out).set (by omega) (by omega))
        have HKb := hide (HKa.out.keep (S' := fun b => b = hk) (Same'.trans (HR3.out.read.same (fun b hb => by omega)) (same_set' (g := hf) (j := 3) (v := .int .i64 u2.1) (fun b hb => by omega))) (fun _ h => h))
        have HVb := hide (HVa.out.keep (S' := fun b => b = hb) (Same'.trans (HR3.out.read.same (fun b hb => by omega)) (same_set' (g := hf) (j := 3) (v := .int .i64 u2.1) (fun b hb => by omega))) (fun _ h => h))
        have HRESb := hide ((HR3.out.read.box HRESa.out (by omega)).other (g := hf) (j := 3) (v := .int .i64 u2.1) (by omega))
        have hzb : w3.heap.size = (w3.setCell ⟨hf, 3, none⟩ (.int .i64 u2.1)).heap.size := (World.size_setCell ..).symm
        clear HB3 HR3 e3 f3 HKa HVa HRESa HRa HBa H9 HN2
        obtain ⟨wb, hwb⟩ : ∃ wb, w3.setCell ⟨hf, 3, none⟩ (.int .i64 u2.1) = wb := ⟨_, rfl⟩
        rw [hwb] at HBb HRb HKb HVb HRESb hzb ⊢
        clear hwb
        obtain ⟨A5, c5, k0, k1, k2, k3, k4, hb5, -, -, -, hL5, -, -⟩ := HRb.out.rs
        have H10 := hide (HC4.out _ HRb.out.rs k2 hL5.2.2.1)
        have y4 := (hb5.cell 4 (v := k2) rfl).1
        have ylt := hb5.lt
        obtain ⟨-, -, a2, -, -, -, -, c2, -, -, -, -, rfl, -, -⟩ := hL5.open'
        clear hb5 hL5 HC4
        go_upto_region 11 with (go_at_call 22; refine H10.out.mono ?_; rintro e w4 ⟨rfl, hr4⟩; have hb4 := hr4.read.box HBb.out (by omega); obtain ⟨e4, f4⟩ := hb4.cell 4 (v := .slice none 0 0) (by simp); have hl4 := hb4.lt; have HB4 := hide hb4; have HR4 := hide hr4; clear hb4 hr4)
        have hzc := HR4.out.read.size
        have hne4 : hf ≠ w4.heap.size := by omega
        obtain ⟨h4, hh4⟩ : ∃ h4, w4.heap.size = h4 := ⟨_, rfl⟩
        rw [hh4] at hne4 hzc hl4 ⊢
        have hBx := HB4.out.set 4 (.slice (some ⟨h4, 0, none⟩) m m)
        have hRx : ReadTo w g B s4 (w4.setCell ⟨hf, 4, none⟩ (.slice (some ⟨h4, 0, none⟩) m m)) := ReadTo.set (HRb.out.trans HR4.out) (by omega) (by omega)
        have hsd : Same' (fun b => b = hk ∨ b = hb) wb (w4.setCell ⟨hf, 4, none⟩ (.slice (some ⟨h4, 0, none⟩) m m)) := Same'.trans (HR4.out.read.same (fun b hb => by omega)) (same_set' (fun b hb => by omega))
        have hRESx := (HR4.out.read.box HRESb.out (by omega)).other (g := hf) (j := 4) (v := .slice (some ⟨h4, 0, none⟩) m m) (by omega)
        have hzx : (w4.setCell ⟨hf, 4, none⟩ (.slice (some ⟨h4, 0, none⟩) m m)).heap.size = h4 := by rw [World.size_setCell]; exact hh4
        obtain ⟨wx, hwx⟩ : ∃ wx, w4.setCell ⟨hf, 4, none⟩ (.slice (some ⟨h4, 0, none⟩) m m) = wx := ⟨_, rfl⟩
        rw [hwx] at hBx hRx hsd hRESx hzx ⊢
        have HBd := hide (hBx.alloc (.cells Z2 43))
        have HRd := hide (show ReadTo w g B s4 (wx.alloc (.cells Z2 43)) from ⟨hRx.rs.alloc _, hRx.read.alloc _⟩)
        have hsd2 : Same' (fun b => b = hk ∨ b = hb) wb (wx.alloc (.cells Z2 43)) := Same'.trans hsd (fun b o hb => World.cell?_alloc_lt _ _ _ (by show b < _; omega))
        have HKd := hide (HKb.out.keep (S' := fun b => b = hk) (fun b o hb => hsd2 b o (Or.inl hb)) (fun _ h => h))
        have HVd := hide (HVb.out.keep (S' := fun b => b = hb) (fun b o hb => hsd2 b o (Or.inr hb)) (fun _ h => h))
        have HRESd := hide (hRESx.alloc (.cells Z2 43))
        have hfn := FillE.new (s := 1) (n := m) (E := BlkE (wx.alloc (.cells Z2 43)) (fun b => h4 < b ∧ b < (wx.alloc (.cells Z2 43)).heap.size)) wx Z2 43 HZ2.out
        rw [hzx] at hfn
        have HFd := hide hfn
        have hzd : (wx.alloc (.cells Z2 43)).heap.size = h4 + 1 := by rw [World.size_alloc, hzx]
        clear HB4 HR4 e4 f4 HKb HVb HRESb HRb HBb H10 hsd hsd2 hfn y4 hmk2 HZ2 hBx hRx hRESx hwx
        obtain ⟨wd, hwd⟩ : ∃ wd, wx.alloc (.cells Z2 43) = wd := ⟨_, rfl⟩
        rw [hwd] at HBd HRd HKd HVd HRESd HFd hzd ⊢
        clear hwd
        have hFB : Box wd hf (funBox hk hb k k u1.1 u2.1 (.slice (some ⟨h4, 0, none⟩) m m)) 38 := by simpa using HBd.out
        have x4 := (hFB.cell 4 (v := .slice (some ⟨h4, 0, none⟩) m m) rfl).1
        have xl := hFB.lt
        have HFB2 := hide hFB
        clear hFB HBd
        go_wp2
        go_loopw [55] (fun i wr => ∃ j : Nat, j ≤ m ∧ i = .int .i64 j ∧ ReadTo w g B (manyT blkT j s4).2 wr ∧ Box wr w.heap.size fun0 38 ∧ Box wr hf (funBox hk hb k k u1.1 u2.1 (.slice (some ⟨h4, 0, none⟩) m m)) 38 ∧ IntsV wr (fun b => b = hk) (.slice (some ⟨hk, 0, none⟩) k k) (vs.map (·.1)) ∧ IntsV wr (fun b => b = hb) (.slice (some ⟨hb, 0, none⟩) k k) (vs.map (·.2)) ∧
          FillE wr h4 43 1 m (BlkE wr (fun b => h4 < b ∧ b < wr.heap.size)) (manyT blkT j s4).1) (fun i _ => m - (intOf i).toNat)
        case atStart => exact ⟨0, Nat.zero_le _, rfl, HRd.out, HRESd.out, HFB2.out, HKd.out, HVd.out, HFd.out⟩
        case round =>
          obtain ⟨j, hj, rfl, hrr, hres, hbf, hK, hV, hf4⟩ := hrel
          have hfl := hf4.lt
          have hlf := hbf.lt
          have hlr := hres.lt
          have hrl := hrr.rs.lt
          have hrsz := hrr.read.size
          by_cases hltj : j < m
          · have hst := hide (manyT_st blkT j s4)
            have hls := hide (manyT_ls blkT j s4)
            have hlen := manyT_len blkT j s4
            have hN := fun q => rblk_any g B (manyT blkT j s4).2 (wr.drewN q) hB0 (HT.out.below ((hrr.read.drewN q).below (by omega)) hB0) hrr.rs
            have HF := hide (fun w3 (h3 : Read g wr w3) => hf4.keep (w' := w3) (E' := BlkE w3 (fun b => h4 < b ∧ b < w3.heap.size)) (h3.block _ hfl (by omega)) (fun cur o x hx => hx.keep (fun _ _ => rfl) (h3.same (fun b hb => by omega)) (fun b hb => by have := h3.size; omega)))
            have HRR := hide hrr
            have HBX := hide hbf
            have HBR := hide hres
            have HK4 := hide hK
            have HV4 := hide hV
            have q0 := (hbf.cell 4 (v := .slice (some ⟨h4, 0, none⟩) m m) rfl).1
            have q1 : (0 : Int) ≤ (j : Int) := by omega
            have q2 : (j : Int) < (m : Int) := by omega
            have q4 := hne4.symm
            have hkb : hk < h4 ∧ hb < h4 := ⟨by omega, by omega⟩
            generalize manyT blkT j s4 = q at *
            generalize blkT q.2 = u at *
            have HN := hide hN
            clear hN hf4 hrr hbf hres hK hV
            go_wp2
            go_region_held3 (fun w' => w'.cell? ⟨hf, 4, none⟩ = some (.slice (some ⟨h4, 0, none⟩) m m)) (first | go_keep | (exact hb3))
              (first
                | (go_at_call 37; refine (HN.out 1).mono ?_; rintro e w9 ⟨v9, rfl, hi3, hr3⟩; obtain ⟨A3, c3', rfl, -, -⟩ := hi3.open'; have hr3' : ReadTo wr g B u.2 w9 := ⟨hr3.rs, ((Read.refl g wr).drewN 1).trans hr3.read⟩; have hb3 := ((hr3'.read.box HBX.out (by omega)).cell 4 (v := .slice (some ⟨h4, 0, none⟩) m m) rfl).1; have hf3 := HF.out _ hr3'.read; obtain ⟨v0, e0, f0⟩ := hf3.cell (i := 0) hltj (by omega); rw [Nat.add_zero, Nat.mul_one] at e0 f0; have HF3 := hide hf3; have HR3 := hide hr3'; have HI3 := hide hi3; have hl3 := hf3.lt; clear hf3 hr3 hr3' hi3))
            have hw3 := HR3.out.read.size
            go_wp2
            go_roundw
            case rel =>
              refine ⟨j + 1, by omega, by go_num, ?_, ?_, ?_, ?_, ?_, ?_⟩
              · rw [hst.out]; exact (HRR.out.trans HR3.out).set (by omega) (by omega)
              · exact (HR3.out.read.box HBR.out (by omega)).other (by omega)
              · exact (HR3.out.read.box HBX.out (by omega)).other (by omega)
              · exact HK4.out.keep (Same'.trans (HR3.out.read.same (fun b hb => by omega)) (same_set' (fun b hb => by omega))) (fun _ h => h)
              · exact HV4.out.keep (Same'.trans (HR3.out.read.same (fun b hb => by omega)) (same_set' (fun b hb => by omega))) (fun _ h => h)
              · rw [hls.out]
                exact (FillE.blk HF3.out hlen hltj (HI3.out.keep (fun _ _ _ => rfl) (fun b hb => ⟨by have : wr.heap.size ≤ b := hb.1; omega, hb.2⟩)) (fun b hb => by omega)).keep rfl (fun cur o x hx => hx.keep (fun _ _ => rfl) (fun _ _ _ => rfl) (fun b hb => by rw [World.size_setCell]; exact hb))
            case measure => simp [intOf]; omega
          · have hjm : j = m := by omega
            subst hjm
            have z0 := (hbf.cell 0 (v := .slice (some ⟨hk, 0, none⟩) k k) rfl).1
            have z1 := (hbf.cell 1 (v := .slice (some ⟨hb, 0, none⟩) k k) rfl).1
            have z2 := (hbf.cell 2 (v := .int .i64 u1.1) rfl).1
            have z3 := (hbf.cell 3 (v := .int .i64 u2.1) rfl).1
            have z4 := (hbf.cell 4 (v := .slice (some ⟨h4, 0, none⟩) j j) rfl).1
            obtain ⟨y0, t0⟩ := hres.cell 0 (v := .slice none 0 0) rfl
            obtain ⟨y1, t1⟩ := hres.cell 1 (v := .slice none 0 0) rfl
            obtain ⟨y2, t2⟩ := hres.cell 2 (v := .int .i64 0) rfl
            obtain ⟨y3, t3⟩ := hres.cell 3 (v := .int .i64 0) rfl
            obtain ⟨y4, t4⟩ := hres.cell 4 (v := .slice none 0 0) rfl
            have hend : BlksV wr (fun b => h4 ≤ b ∧ b < wr.heap.size) (.slice (some ⟨h4, 0, none⟩) j j) (manyT blkT j s4).1 := hf4.vec (manyT_len blkT j s4) (by omega) ⟨Nat.le_refl _, hfl⟩ (fun cur o x hb hx => by
              obtain ⟨v, g0, g1⟩ := hx
              exact ⟨v, (hb.cell _ g0).1, InssV.keep g1 (fun _ _ _ => rfl) (fun b hb => by omega)⟩)
            have hkb : hk < h4 ∧ hb < h4 := ⟨by omega, by omega⟩
            have HEND := hide hend
            have HRR := hide hrr
            have HBR := hide hres
            have HK4 := hide hK
            have HV4 := hide hV
            clear hf4 hrr hbf hres hend hK hV
            go_wp2
            have hB := ((((HBR.out.set 0 (.slice (some ⟨hk, 0, none⟩) k k)).set 1 (.slice (some ⟨hb, 0, none⟩) k k)).set 2 (.int .i64 u1.1)).set 3 (.int .i64 u2.1)).set 4 (.slice (some ⟨h4, 0, none⟩) j j)
            have c0 := (hB.cell 0 (v := .slice (some ⟨hk, 0, none⟩) k k) (by simp)).1
            have c1 := (hB.cell 1 (v := .slice (some ⟨hb, 0, none⟩) k k) (by simp)).1
            have c2 := (hB.cell 2 (v := .int .i64 u1.1) (by simp)).1
            have c3 := (hB.cell 3 (v := .int .i64 u2.1) (by simp)).1
            have c4 := (hB.cell 4 (v := .slice (some ⟨h4, 0, none⟩) j j) (by simp)).1
            have hFe := HFT.out
            refine bodyPost_ret (v := .agg #[.slice (some ⟨hk, 0, none⟩) k k, .slice (some ⟨hb, 0, none⟩) k k, .int .i64 u1.1, .int .i64 u2.1, .slice (some ⟨h4, 0, none⟩) j j]) (by simp [results, Tryd.results23, go_sem, c0, c1, c2, c3, c4]) rfl ⟨_, _, _, by rw [hFe], ?_, ?_⟩
            · rw [hFe]
              exact ⟨HK4.out.keep (same_st5 (fun b hb => by omega)) (fun b hb => by unfold Made; rw [size_st5]; omega), HV4.out.keep (same_st5 (fun b hb => by omega)) (fun b hb => by unfold Made; rw [size_st5]; omega), BlksV.keep HEND.out (same_st5 (fun b hb => by omega)) (fun b hb => by unfold Made; rw [size_st5]; omega), hp1, hp2⟩
            · rw [hFe]
              exact HRR.out.apart5 (by omega) (Nat.le_refl _)
end Go.Proofs.YtkimocfofihjbaaDoor
namespace Go.Proofs.YtkimocfofihjbaaDoor
open Go.RowKit

def FunE (w : World) (S : Nat → Prop) (cur : Array Value) (o : Nat) (f : FunV) : Prop :=
  ∃ vk vb vs, (cur[o]? = some vk ∧ cur[o + 1]? = some vb ∧ cur[o + 2]? = some (.int .i64 f.params) ∧ cur[o + 3]? = some (.int .i64 f.result) ∧ cur[o + 4]? = some vs) ∧ FunI w S vk vb vs f
theorem FunE.keep {w w' : World} {S S' : Nat → Prop} {cur cur' : Array Value} {o : Nat} {x : FunV} (h : FunE w S cur o x) (hc : ∀ i, i < 5 → cur'[o + i]? = cur[o + i]?) (hk : Same' S w w') (hS : ∀ b, S b → S' b) : FunE w' S' cur' o x := by
  obtain ⟨vk, vb, vs, ⟨h0, h1, h2, h3, h4⟩, hi⟩ := h
  exact ⟨vk, vb, vs, ⟨(hc 0 (by omega)).trans h0, (hc 1 (by omega)).trans h1, (hc 2 (by omega)).trans h2, (hc 3 (by omega)).trans h3, (hc 4 (by omega)).trans h4⟩, hi.keep hk hS⟩
theorem FunE.funC {w : World} {S : Nat → Prop} {cur : Array Value} {h o : Nat} {T : TypeId} {x : FunV} (hx : FunE w S cur o x) (hb : Box w h cur T) : FunC w S h o x := by
  obtain ⟨vk, vb, vs, ⟨h0, h1, h2, h3, h4⟩, hi⟩ := hx
  exact ⟨vk, vb, vs, ⟨(hb.cell _ h0).1, (hb.cell _ h1).1, (hb.cell _ h2).1, (hb.cell _ h3).1, (hb.cell _ h4).1⟩, hi⟩
theorem FillE.func {w : World} {h : Nat} {T : TypeId} {n k : Nat} {l : List FunV} {x : FunV} {vk vb vs : Value} {S : Nat → Prop} (f : FillE w h T 5 n (FunE w S) l) (hl : l.length = k) (hk : k < n) (hi : FunI w S vk vb vs x) (hS : ∀ b, S b → b ≠ h) :
    FillE (st5 w h (k * 5) vk vb (.int .i64 x.params) (.int .i64 x.result) vs) h T 5 n (FunE (st5 w h (k * 5) vk vb (.int .i64 x.params) (.int .i64 x.result) vs) S) (l ++ [x]) :=
  f.put hl (fun cur hb hs => by
    obtain ⟨cur', hb', hs', hu, g0, g1, g2, g3, g4⟩ := hb.in5 (o := k * 5) (v0 := vk) (v1 := vb) (v2 := .int .i64 x.params) (v3 := .int .i64 x.result) (v4 := vs) (by omega)
    exact ⟨cur', hb', hs', hu, vk, vb, vs, ⟨g0, g1, g2, g3, g4⟩, hi.keep (same_st5 hS) (fun _ h => h)⟩)
    (fun cur cur' o y hc hy => hy.keep hc (same_st5 hS) (fun _ h => h))

set_option maxHeartbeats 1000000 in
set_option maxRecDepth 100000 in
theorem rprog_any (g B : Nat) (s : St) (w : World) (hB0 : 0 < g) (hT : TabP w) (h : RS w g B s) :
    Calls Tryd.prog 12 #[.pointer (some ⟨g, 0, none⟩)] w fun e w' => ∃ v, e = .returned (.agg #[v]) ∧ FunsV w' (Made w w') v (progT s).1 ∧ ReadTo w g B (progT s).2 w' := by
  have hgw := h.lt
  have h0 := h
  obtain ⟨A, c, l0, l1, l2, l3, l4, hb, hs, hc, hm, hL, hby, hB⟩ := h
  have H := hide (fun o => count_any l0 1 8 g B s (w.alloc o) (h0.alloc o) (hL.1.keep (fun b' o' hb' => World.cell?_alloc_lt _ _ _ (by show b' < _; omega)) (fun _ h => h)))
  have hcR := cntT_R (lo := 1) (hi := 8) hby (by omega)
  obtain ⟨m, hm'⟩ : ∃ m : Nat, (cntT 1 8 s).1 = (m : Int) := ⟨(cntT 1 8 s).1.toNat, by omega⟩
  have hv := hide (show progT s = manyT funT m (cntT 1 8 s).2 by unfold progT; rw [hm']; rfl)
  rw [hv.out]
  rw [hm'] at H hcR
  have hmk := mk_run 24 38 Tryd.underlying24 info_Func (by omega) m (by omega)
  have hZs := size_madeCells (Value.cells (.agg fun0)) (m * 5)
  generalize madeCells (Value.cells (.agg fun0)) (m * 5) = Z at *
  have HZ := hide hZs
  have x5 := (hb.cell 2 (v := l0) rfl).1
  obtain ⟨a3, -, -, -, -, c3, -, -, -, -, rfl, -, -, -, -⟩ := hL.open'
  generalize (cntT 1 8 s).2 = t at *
  have HT := hide hT
  clear hb hs hL hby h0 hZs hv hm' hT
  go_enter Tryd.func12, Tryd.ntmps12
  go_wp2_with (go_at_call 22; refine (H.out _).mono ?_; rintro e w1 ⟨rfl, hr⟩; have hbr1 := hr.read.box (Box.new w _ _) (by omega); have HBR1 := hide hbr1; have HR1 := hide hr; have hz1 := hr.read.size; simp at hz1; clear hr hbr1)
  obtain ⟨h1, hh1⟩ : ∃ h1, w1.heap.size = h1 := ⟨_, rfl⟩
  go_loopw [17] (fun i wr => ∃ k : Nat, k ≤ m ∧ i = .int .i64 k ∧ ReadTo w g B (manyT funT k t).2 wr ∧ Box wr w.heap.size #[.slice none 0 0] 26 ∧ Box wr (w1.heap.size + 1) #[.slice (some ⟨w1.heap.size, 0, none⟩) m m] 26 ∧
    FillE wr w1.heap.size 38 5 m (FunE wr (fun b => w1.heap.size < b ∧ b < wr.heap.size)) (manyT funT k t).1) (fun i _ => m - (intOf i).toNat)
  case atStart =>
    refine ⟨0, Nat.zero_le _, rfl, ⟨(HR1.out.rs.alloc _).alloc _, ((((Read.refl g w).alloc _).trans HR1.out.read).alloc _).alloc _⟩, (HBR1.out.alloc _).alloc _, ?_, ?_⟩
    · have := Box.new (w1.alloc (.cells Z 38)) #[.slice (some ⟨w1.heap.size, 0, none⟩) m m] 26
      rw [World.size_alloc] at this
      exact this
    · exact (FillE.new (E := FunE (w1.alloc (.cells Z 38)) (fun b => w1.heap.size < b ∧ b < w1.heap.size)) w1 Z _ HZ.out).keep (Below.heap_alloc _ _ _ (by simp)) (fun cur o x hx => hx.keep (fun _ _ => rfl) (fun b o hb => by omega) (fun b hb => by omega))
  case round =>
    rw [hh1] at hrel ⊢
    obtain ⟨k, hk, rfl, hrr, hbr, hbx, hf⟩ := hrel
    have hfl := hf.lt
    have hbl := hbx.lt
    have hrl := hrr.rs.lt
    by_cases hlt : k < m
    · have hst := hide (manyT_st funT k t)
      have hls := hide (manyT_ls funT k t)
      have hlen := manyT_len funT k t
      have hN := fun q => rfun_any g B (manyT funT k t).2 (wr.drewN q) hB0 (HT.out.below ((hrr.read.drewN q).below (by omega)) hB0) hrr.rs
      have HF := hide (fun w3 (h3 : Read g wr w3) => hf.keep (w' := w3) (E' := FunE w3 (fun b => h1 < b ∧ b < w3.heap.size)) (h3.block _ hfl (by omega)) (fun cur o x hx => hx.keep (fun _ _ => rfl) (h3.same (fun b hb => by omega)) (fun b hb => by have := h3.size; omega)))
      have HRR := hide hrr
      have HBX := hide hbx
      have HBR := hide hbr
      have q0 := (hbx.cell 0 (v := .slice (some ⟨h1, 0, none⟩) m m) rfl).1
      have q1 : (0 : Int) ≤ (k : Int) := by omega
      have q2 : (k : Int) < (m : Int) := by omega
      have q3 : h1 ≠ h1 + 1 := by omega
      have q4 : h1 + 1 ≠ h1 := by omega
      generalize manyT funT k t = q at *
      generalize funT q.2 = u at *
      have HN := hide hN
      clear hN hf hrr hbx hbr
      go_wp2
      go_region_held3 (fun w' => w'.cell? ⟨h1 + 1, 0, none⟩ = some (.slice (some ⟨h1, 0, none⟩) m m)) (first | go_keep | (exact hb3) )
        (first
          | (go_at_call 23; refine (HN.out 1).mono ?_; rintro e w3 ⟨vk, vb, vs, rfl, hi3, hr3⟩; obtain ⟨A3, c3', rfl, -, -⟩ := hi3.1.open'; obtain ⟨A4, c4', rfl, -, -⟩ := hi3.2.1.open'; obtain ⟨A5, c5', rfl, -, -⟩ := hi3.2.2.1.open'; have hr3' : ReadTo wr g B u.2 w3 := ⟨hr3.rs, ((Read.refl g wr).drewN 1).trans hr3.read⟩; have hb3 := ((hr3'.read.box HBX.out (by omega)).cell 0 (v := .slice (some ⟨h1, 0, none⟩) m m) rfl).1; have hf3 := HF.out _ hr3'.read; obtain ⟨v0, e0, f0⟩ := hf3.cell (i := 0) hlt (by omega); obtain ⟨v1, e1, f1⟩ := hf3.cell (i := 1) hlt (by omega); obtain ⟨v2, e2, f2⟩ := hf3.cell (i := 2) hlt (by omega); obtain ⟨v3, e3, f3⟩ := hf3.cell (i := 3) hlt (by omega); obtain ⟨v4, e4, f4⟩ := hf3.cell (i := 4) hlt (by omega); rw [Nat.add_zero] at e0 f0; have HF3 := hide hf3; have HR3 := hide hr3'; have HI3 := hide hi3; have hl3 := hf3.lt; clear hf3 hr3 hr3' hi3))
      have hw3 := HR3.out.read.size
      go_wp2
      go_roundw
      case rel =>
        refine ⟨k + 1, by omega, by go_num, ?_, ?_, ?_, ?_⟩
        · rw [hst.out]; exact (HRR.out.trans HR3.out).apart5 (by omega) (by omega)
        · exact (HR3.out.read.box HBR.out (by omega)).apart5 (by omega)
        · exact (HR3.out.read.box HBX.out (by omega)).apart5 (by omega)
        · rw [hls.out]
          exact (FillE.func HF3.out hlen hlt (HI3.out.keep (fun _ _ _ => rfl) (fun b hb => ⟨by have : wr.heap.size ≤ b := hb.1; omega, hb.2⟩)) (fun b hb => by omega)).keep rfl (fun cur o x hx => hx.keep (fun _ _ => rfl) (fun _ _ _ => rfl) (fun b hb => by rw [size_st5]; exact hb))
      case measure => simp [intOf]; omega
    · have hkm : k = m := by omega
      subst hkm
      have hx0 := (hbx.cell 0 (v := .slice (some ⟨h1, 0, none⟩) k k) rfl).1
      obtain ⟨y0, z0⟩ := hbr.cell 0 (v := .slice none 0 0) rfl
      have hend : FunsV wr (fun b => h1 ≤ b ∧ b < wr.heap.size) (.slice (some ⟨h1, 0, none⟩) k k) (manyT funT k t).1 := hf.vec (manyT_len funT k t) (by omega) ⟨Nat.le_refl _, hfl⟩ (fun cur o x hb hx => (hx.keep (S' := fun b => h1 ≤ b ∧ b < wr.heap.size) (fun _ _ => rfl) (fun _ _ _ => rfl) (fun b hb => by omega)).funC hb)
      have HEND := hide hend
      have HRR := hide hrr
      have HBR := hide hbr
      clear hf hrr hbx hbr hend
      go_wp2
      have hB := (HBR.out.set 0 (.slice (some ⟨h1, 0, none⟩) k k))
      have c0 := (hB.cell 0 (v := .slice (some ⟨h1, 0, none⟩) k k) (by simp)).1
      refine bodyPost_ret (v := .agg #[.slice (some ⟨h1, 0, none⟩) k k]) (by simp [results, Tryd.results12, go_sem, c0]) rfl ⟨_, rfl, ?_, HRR.out.set (by omega) (Nat.le_refl _)⟩
      exact HEND.out.keep (same_set' (fun b hb => by omega)) (fun b hb => by unfold Made; rw [World.size_setCell]; omega)

/-- What Decode answers, in memory. -/
def DecA (W : World) (zs : List Int) (e : Ending) (w' : World) : Prop :=
  ∃ v, e = .returned (.tuple #[.agg #[v], .int .i64 ((decR zs).2 : Int)]) ∧ FunsV w' (· < w'.heap.size) v (decR zs).1 ∧ Below W.heap.size W w'
end Go.Proofs.YtkimocfofihjbaaDoor
namespace Go.Proofs.YtkimocfofihjbaaDoor
open Go.RowKit

theorem DecA.no {W w' : World} {zs : List Int} {k : Nat} (h : decR zs = ([], k)) (hb : Below W.heap.size W w') : DecA W zs (.returned (.tuple #[.agg #[.slice none 0 0], .int .i64 (k : Int)])) w' :=
  ⟨.slice none 0 0, by rw [h], by rw [h]; exact Vec.nil _ _ _, hb⟩
theorem RS.see2 {w : World} {g B : Nat} {s : St} (h : RS w g B s) : ∃ A c, w.cell? ⟨g, 0, none⟩ = some (.slice A s.1.length c) ∧ w.cell? ⟨g, 1, none⟩ = some (.int .i64 (s.2 : Int)) ∧ w.frozen? ⟨g, 1, none⟩ = false := by
  obtain ⟨A, c, l0, l1, l2, l3, l4, hb, -⟩ := h
  exact ⟨A, c, (hb.cell 0 rfl).1, (hb.cell 1 rfl).1, (hb.cell 1 (v := .int .i64 (s.2 : Int)) rfl).2⟩

set_option maxHeartbeats 1000000 in
set_option maxRecDepth 100000 in
theorem decode_any (A : Option Addr) (n c : Nat) (zs : List Int) (w : World) (hr : Sl w w.heap.size .u8 A zs) (hn : zs.length = n) (hc : n ≤ c) (hmax : c ≤ 9223372036854775807) (hby : ∀ z ∈ zs, 0 ≤ z ∧ z ≤ 255) (hT : TabP w) :
    Calls Tryd.prog 5 #[.slice A n c] w (DecA w zs) := by
  have hLm := limits_any (w.alloc (.cells #[.slice none 0 0] 26))
  have hP := fun (w1 : World) (hb1 : Below (w.alloc (.cells #[.slice none 0 0] 26)).heap.size (w.alloc (.cells #[.slice none 0 0] 26)) w1) (l0 l1 l2 l3 l4 : Value) (hl : LimsC w1 (· < w1.heap.size) l0 l1 l2 l3 l4) =>
    rprog_any w1.heap.size w1.heap.size (zs, 0) (w1.alloc (.cells #[.slice A n c, .int .i64 0, l0, l1, l2, l3, l4] 50)) (by have := hb1.size; simp at this; omega)
      ((hT.below ((below1 w _).trans (hb1.mono (by simp))) hT.1).below (below1 w1 _) (by have := hb1.size; simp at this; omega))
      ⟨A, c, l0, l1, l2, l3, l4, by subst hn; exact Box.new w1 _ _, ((hr.below ((below1 w _).trans (hb1.mono (by simp)))).below ((below1 w1 _).mono (by have := hb1.size; simp at this; omega))).more (by have := hb1.size; simp at this; omega), by show zs.length ≤ c; omega, hmax, hl.keep (Same'.of_below (below1 w1 _)) (fun _ h => h), hby, Nat.le_refl _⟩
  have HLm := hide hLm
  have HPr := hide hP
  have hv : decR zs = if endE (progT (zs, 0)).2 = 0 then ((progT (zs, 0)).1, 0) else ([], endE (progT (zs, 0)).2) := rfl
  have HV := hide hv
  have HT := hide hT
  clear hLm hP hr hn hby hT hv
  generalize progT (zs, 0) = p at *
  obtain ⟨P, rest, E⟩ := p
  simp only [endE] at HV
  go_enter Tryd.func5, Tryd.ntmps5
  go_upto_region 3 with (first
    | (go_at_call 11; refine HLm.out.mono ?_; rintro e w1 ⟨l0, l1, l2, l3, l4, rfl, hl, hb1⟩; have hz1 := hb1.size; simp at hz1; have HB1 := hide hb1; have HL1 := hide hl; clear hl hb1)
    | (go_at_call 12; refine (HPr.out _ HB1.out _ _ _ _ _ HL1.out).mono ?_; rintro e w2 ⟨v2, rfl, hv2, hr2⟩; obtain ⟨A2, c2, rfl, -, -⟩ := hv2.open'; have hz2 := hr2.read.size; simp at hz2; obtain ⟨A5, c5, u0, u1, u2⟩ := hr2.rs.see2; have hg2 := hr2.rs.lt.2; have HV2 := hide hv2; have HR2 := hide hr2; clear hv2 hr2))
  have hbx := HR2.out.read.box (Box.alloc (Box.belowB (Box.new w #[.slice none 0 0] 26) HB1.out (by simp)) _) (by omega)
  have hbel : Below w.heap.size w w2 := ((below1 w _).trans (HB1.out.mono (by simp))).trans (((below1 w1 _).mono (by omega)).trans ((HR2.out.read.below (by simp)).mono (by omega)))
  obtain ⟨x0, x1⟩ := hbx.cell 0 (v := .slice none 0 0) rfl
  have xl := hbx.lt
  have HBX := hide hbx
  have HBEL := hide hbel
  clear hbx hbel
  by_cases hE : E = 0
  · subst hE
    have u1' : w2.cell? ⟨w1.heap.size, 1, none⟩ = some (.int .i64 0) := u1
    clear u1
    by_cases h0 : 0 < rest.length
    · have hv := hide (show decR zs = ([], 11) by rw [HV.out]; simp [h0])
      have h0' : (0 : Int) < (rest.length : Int) := by omega
      have HE1 := hide ((HBEL.out.setCell (p := ⟨w1.heap.size, 1, none⟩) (by show w.heap.size ≤ w1.heap.size; omega) (.int .i64 11)))
      generalize rest.length = rl at *
      clear HV HPr HLm HT
      go_wp2
      go_region
      all_goals
        go_wp2
        refine bodyPost_ret (v := .tuple #[.agg #[.slice none 0 0], .int .i64 11]) (by simp [results, Tryd.results5, go_sem, x0, xl]) rfl (DecA.no hv.out ?_)
        exact ((((HBEL.out.setCell (p := ⟨w1.heap.size, 1, none⟩) (by show w.heap.size ≤ w1.heap.size; omega) _).setCell (p := ⟨w.heap.size, 0, none⟩) (Nat.le_refl _) _).alloc (by simp only [World.size_setCell]; omega) _)).drew
    · have hv := hide (show decR zs = (P, 0) by rw [HV.out]; simp [h0])
      have h0' : ¬ (0 : Int) < (rest.length : Int) := by omega
      generalize rest.length = rl at *
      clear HV HPr HLm HT
      go_wp2
      refine bodyPost_ret (v := .tuple #[.agg #[.slice A2 P.length c2], .int .i64 0]) (by simp [results, Tryd.results5, go_sem, x0, xl]) rfl ⟨.slice A2 P.length c2, by rw [hv.out]; rfl, ?_, ?_⟩
      · rw [hv.out]
        have hk : Same' (fun b => w1.heap.size + 1 ≤ b ∧ b < w2.heap.size) w2 ((w2.setCell ⟨w.heap.size, 0, none⟩ (.slice A2 P.length c2)).alloc (.cells #[.slice A2 P.length c2] 26)) :=
          (same_set' (fun b hb => by omega)).trans (fun b o hb => World.cell?_alloc_lt _ _ _ (by show b < _; simp only [World.size_setCell]; exact hb.2))
        exact (FunsV.keep HV2.out (S' := fun b => w1.heap.size + 1 ≤ b ∧ b < w2.heap.size) (fun _ _ _ => rfl) (fun b hb => by unfold Made at hb; simpa using hb)).keep hk (fun b hb => by simp only [World.size_alloc, World.size_setCell]; omega)
      · exact (HBEL.out.setCell (p := ⟨w.heap.size, 0, none⟩) (Nat.le_refl _) _).alloc (by simp only [World.size_setCell]; omega) _
  · have hv := hide (show decR zs = ([], E) by rw [HV.out]; simp [hE])
    have hEb : ((E : Int) == 0) = false := by simp; omega
    have hEb2 : ((E : Int) != 0) = true := by simp; omega
    generalize rest.length = rl at *
    clear HV HPr HLm HT hE
    go_wp2
    go_region
    all_goals
      go_wp2
      refine bodyPost_ret (v := .tuple #[.agg #[.slice none 0 0], .int .i64 (E : Int)]) (by simp [results, Tryd.results5, go_sem, x0, xl]) rfl (DecA.no hv.out ?_)
      exact ((HBEL.out.setCell (p := ⟨w.heap.size, 0, none⟩) (Nat.le_refl _) _).alloc (by simp only [World.size_setCell]; omega) _).drew
end Go.Proofs.YtkimocfofihjbaaDoor
