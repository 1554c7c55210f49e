/- The reader in memory, and the contracts of its take, number, only, count. Condition: the table of parts reads as listed (isOp). -/
import Derived.Test.YtpggjolbohffjaaDoorCDecW
import Derived.Test.YtpggjolbohffjaaDoorVGet
import Derived.Test.YtpggjolbohffjaaDoorCMay
import Derived.Test.YtpggjolbohffjaaDoorCLim3
set_option linter.unusedSimpArgs false
set_option linter.unusedVariables false
namespace Go.Proofs.YtpggjolbohffjaaDoor
open Go.RowKit

/-- All blocks but g are as they were. -/
structure Read (g : Nat) (w w' : World) : Prop where
  os : w'.os = w.os
  tape : w'.tape = w.tape
  output : w'.output = w.output
  size : w.heap.size ≤ w'.heap.size
  block : ∀ k, k < w.heap.size → k ≠ g → w'.heap[k]? = w.heap[k]?
section
variable {g : Nat} {w w1 w2 : World}
theorem Read.refl (g : Nat) (w : World) : Read g w w := ⟨rfl, rfl, rfl, Nat.le_refl _, fun _ _ _ => rfl⟩
theorem Read.trans (h : Read g w w1) (h2 : Read g w1 w2) : Read g w w2 :=
  ⟨h2.os.trans h.os, h2.tape.trans h.tape, h2.output.trans h.output, Nat.le_trans h.size h2.size, fun k hk hg => (h2.block k (by have := h.size; omega) hg).trans (h.block k hk hg)⟩
theorem Read.alloc (h : Read g w w1) (o : Obj) : Read g w (w1.alloc o) :=
  h.trans ⟨rfl, rfl, rfl, by simp, fun k hk _ => Below.heap_alloc _ _ _ hk⟩
theorem Read.of_below (h : Below w.heap.size w w1) : Read g w w1 := ⟨h.os, h.tape, h.output, h.size, fun k hk _ => h.block k hk⟩
theorem Read.set (h : Read g w w1) {b j : Nat} {v : Value} (hb : w.heap.size ≤ b ∨ b = g) : Read g w (w1.setCell ⟨b, j, none⟩ v) :=
  ⟨h.os, h.tape, h.output, by rw [World.size_setCell]; exact h.size, fun k hk hg => (heap_setCell_other w1 ⟨b, j, none⟩ k v (by simp; omega)).trans (h.block k hk hg)⟩
theorem Read.drewN (h : Read g w w1) (q : Nat) : Read g w (w1.drewN q) := ⟨h.os, h.tape, h.output, h.size, h.block⟩
theorem Read.iter (h : Read g w w1) {k : Nat} {s : ByteArray} {p : Nat} (hk : w.heap.size ≤ k) : Read g w (w1.iterAt k s p) :=
  ⟨h.os, h.tape, h.output, by rw [Lib.iterAt_size]; exact h.size, fun i hi hg => (Lib.iterAt_other w1 k i s p (by omega)).trans (h.block i hi hg)⟩
theorem Read.below (h : Read g w w1) (hg : g ≤ w.heap.size) : Below g w w1 := ⟨h.os, h.tape, h.output, h.size, fun k hk => h.block k (by omega) (by omega)⟩
theorem Read.box {k : Nat} {cs : Array Value} {T : TypeId} (h : Read g w w1) (b : Box w k cs T) (hk : k ≠ g) : Box w1 k cs T := (h.block k b.lt hk).trans b
theorem Read.same {S : Nat → Prop} (h : Read g w w1) (hS : ∀ b, S b → b < w.heap.size ∧ b ≠ g) : Same' S w w1 := fun b o hb => World.cell?_of_block (a := ⟨b, o, none⟩) (h.block b (hS b hb).1 (hS b hb).2)
theorem Read.iterAt {k : Nat} {s : ByteArray} {p : Nat} (h : Read g w w1) (hk : w.heap[k]? = some (.stringIter s p)) (hkg : k ≠ g) : w1.heap[k]? = some (.stringIter s p) := (h.block k (iter_lt hk) hkg).trans hk
end

/-- The reader: what is left of the bytes, the first error, the closures. B: below it lie the bytes and the closures. -/
def RS (w : World) (g B : Nat) (s : St) : Prop :=
  ∃ A c l0 l1 l2 l3 l4, Box w g #[.slice A s.1.length c, .int .i64 (s.2 : Int), l0, l1, l2, l3, l4] 58 ∧ Sl w B .u8 A s.1 ∧ s.1.length ≤ c ∧ c ≤ 9223372036854775807 ∧ LimsC w (· < B) l0 l1 l2 l3 l4 ∧ Byt s ∧ B ≤ g
theorem RS.lt {w : World} {g B : Nat} {s : St} (h : RS w g B s) : B ≤ g ∧ g < w.heap.size := by
  obtain ⟨A, c, l0, l1, l2, l3, l4, hb, -, -, -, -, -, hB⟩ := h
  exact ⟨hB, hb.lt⟩
theorem RS.byt {w : World} {g B : Nat} {s : St} (h : RS w g B s) : Byt s := by
  obtain ⟨A, c, l0, l1, l2, l3, l4, -, -, -, -, -, hb, -⟩ := h
  exact hb
theorem RS.below {w w1 : World} {g B : Nat} {s : St} (h : RS w g B s) (hb : Below w.heap.size w w1) : RS w1 g B s := by
  obtain ⟨A, c, l0, l1, l2, l3, l4, hbx, hs, h1, h2, hl, h3, hB⟩ := h
  have hlt := hbx.lt
  exact ⟨A, c, l0, l1, l2, l3, l4, hbx.below hb, hs.below (hb.mono (by omega)), h1, h2, hl.keep (Same'.of_below (hb.mono (by omega))) (fun _ h => h), h3, hB⟩
theorem RS.alloc {w : World} {g B : Nat} {s : St} (h : RS w g B s) (o : Obj) : RS (w.alloc o) g B s := h.below ((Below.refl _ _).alloc (Nat.le_refl _) _)
theorem RS.set {w : World} {g B b j : Nat} {v : Value} {s : St} (h : RS w g B s) (hb : g < b) : RS (w.setCell ⟨b, j, none⟩ v) g B s := by
  obtain ⟨A, c, l0, l1, l2, l3, l4, hbx, hs, h1, h2, hl, h3, hB⟩ := h
  have hbel : Below b w (w.setCell ⟨b, j, none⟩ v) := (Below.refl _ _).setCell (p := ⟨b, j, none⟩) (Nat.le_refl _) _
  exact ⟨A, c, l0, l1, l2, l3, l4, hbx.belowB hbel hb, hs.below (hbel.mono (by omega)), h1, h2, hl.keep (Same'.of_below (hbel.mono (by omega))) (fun _ h => h), h3, hB⟩
theorem RS.drewN {w : World} {g B : Nat} {s : St} (h : RS w g B s) (q : Nat) : RS (w.drewN q) g B s := h
theorem RS.iter {w : World} {g B k p : Nat} {t : ByteArray} {s : St} (h : RS w g B s) (hk : g < k) : RS (w.iterAt k t p) g B s := by
  obtain ⟨A, c, l0, l1, l2, l3, l4, hbx, hs, h1, h2, hl, h3, hB⟩ := h
  have hbel : Below k w (w.iterAt k t p) := Lib.below_iterAt (Below.refl _ _) (Nat.le_refl _) t p
  exact ⟨A, c, l0, l1, l2, l3, l4, hbx.belowB hbel hk, hs.below (hbel.mono (by omega)), h1, h2, hl.keep (Same'.of_below (hbel.mono (by omega))) (fun _ h => h), h3, hB⟩
/-- What a reader's method leaves. -/
structure ReadTo (w : World) (g B : Nat) (s : St) (w' : World) : Prop where
  rs : RS w' g B s
  read : Read g w w'

theorem num_end {w : World} {g B n m c E d : Nat} {A A' : Option Addr} {zs : List Int} {l0 l1 l2 l3 l4 : Value}
    (hb : Box w g #[.slice A n c, .int .i64 0, l0, l1, l2, l3, l4] 58) (hs : Sl w B .u8 A zs) (hn : zs.length = n) (hc : n ≤ c) (hm : c ≤ 9223372036854775807) (hL : LimsC w (· < B) l0 l1 l2 l3 l4) (hby : Byt (zs, 0)) (hB : B ≤ g)
    (hA : m < n → ∀ b o, A = some ⟨b, o, none⟩ → A' = some ⟨b, o + m, none⟩) (hd : d = c - m) (hmn : m ≤ n) :
    ReadTo w g B (zs.drop m, E) ((w.setCell ⟨g, 0, none⟩ (.slice A' (n - m) d)).setCell ⟨g, 1, none⟩ (.int .i64 (E : Int))) := by
  subst hd hn
  have hbel : Below g w ((w.setCell ⟨g, 0, none⟩ (.slice A' (zs.length - m) (c - m))).setCell ⟨g, 1, none⟩ (.int .i64 (E : Int))) := ((Below.refl _ _).setCell (p := ⟨g, 0, none⟩) (Nat.le_refl _) _).setCell (p := ⟨g, 1, none⟩) (Nat.le_refl _) _
  refine ⟨⟨A', c - m, l0, l1, l2, l3, l4, ?_, (hs.drop hA).below (hbel.mono hB), by simp; omega, by omega, hL.keep (Same'.of_below (hbel.mono hB)) (fun _ h => h), Byt.drop hby, hB⟩, ((Read.refl _ _).set (Or.inr rfl)).set (Or.inr rfl)⟩
  have := (hb.set 0 (.slice A' (zs.length - m) (c - m))).set 1 (.int .i64 (E : Int))
  simpa using this

theorem rd_size (most : Nat) : ∀ (zs : List Int) (u i : Nat), (rd most u i zs).2.1 ≤ i + zs.length
  | [], u, i => by simp only [rd]; split <;> simp
  | z :: zs, u, i => by
    simp only [rd]
    split
    · split
      · have := rd_size most zs (u + (z % 128).toNat * 128 ^ i) (i + 1)
        simp <;> omega
      · split
        · simp
        · split
          · simp
          · simp <;> omega
    · simp
theorem rd_err (most : Nat) : ∀ (zs : List Int) (u i : Nat), (rd most u i zs).2.2 ≠ 0 → (rd most u i zs).1 = 0 ∧ (rd most u i zs).2.1 = 0
  | [], u, i, _ => by simp only [rd]; split <;> simp
  | z :: zs, u, i, h => by
    simp only [rd] at h ⊢
    split
    · rename_i h0
      rw [if_pos h0] at h
      split
      · rename_i h1
        rw [if_pos h1] at h
        exact rd_err most zs _ _ h
      · rename_i h1
        rw [if_neg h1] at h
        split
        · simp
        · rename_i h2
          rw [if_neg h2] at h
          split
          · simp
          · rename_i h3
            rw [if_neg h3] at h
            exact absurd rfl h
    · simp

set_option maxRecDepth 100000 in
theorem take_any (g B : Nat) (s : St) (w : World) (h : RS w g B s) :
    Calls Tryd.prog 97 #[.pointer (some ⟨g, 0, none⟩), .func (.func 98) #[] #[]] w fun e w' => e = .returned (.int .i64 (numT s).1) ∧ ReadTo w g B (numT s).2 w' := by
  have h0 := h
  obtain ⟨A, c, l0, l1, l2, l3, l4, hb, hs, hc, hm, hL, hby, hB⟩ := h
  obtain ⟨zs, E⟩ := s
  simp only at hb hs hc
  by_cases hE : E = 0
  · subst hE
    have hv := hide (show numT (zs, 0) = (((rd 9 0 0 zs).1 : Int), (zs.drop (rd 9 0 0 zs).2.1, (rd 9 0 0 zs).2.2)) from rfl)
    have hsz := rd_size 9 zs 0 0
    obtain ⟨n, hn⟩ : ∃ n, zs.length = n := ⟨_, rfl⟩
    rw [hn] at hb hc hsz
    have hG := get_any A n c zs w B hs hn hc (by omega) hby
    have hend := fun (A' : Option Addr) (d : Nat) (hA : (rd 9 0 0 zs).2.1 < n → ∀ b o, A = some ⟨b, o, none⟩ → A' = some ⟨b, o + (rd 9 0 0 zs).2.1, none⟩) (hd : d = c - (rd 9 0 0 zs).2.1) => num_end (E := (rd 9 0 0 zs).2.2) hb hs hn hc hm hL hby hB hA hd (by omega)
    have HA := hide (fun (hp : 0 < n) => hs (by omega))
    have HEND := hide hend
    have HGT := hide hG
    obtain ⟨a0, a1, a2, a3, a4, c0, c1, c2, c3, c4, rfl, rfl, rfl, rfl, rfl⟩ := hL.open'
    obtain ⟨y0, z0⟩ := hb.cell 0 (v := .slice A n c) rfl
    obtain ⟨y1, z1⟩ := hb.cell 1 (v := .int .i64 0) rfl
    have hlt := hb.lt
    rw [hv.out]
    clear hv hG hend hb hs hL hby h0 hn
    generalize rd 9 0 0 zs = r at *
    obtain ⟨r1, r2, r3⟩ := r
    simp only at *
    generalize zs.drop r2 = zd at *
    by_cases hcm : c = r2
    · have hnr : n = r2 := by omega
      subst hnr
      subst hcm
      have hfin := hide (HEND.out A 0 (fun hh => absurd hh (by omega)) (by omega))
      clear HEND
      go_enter Tryd.func97, Tryd.ntmps97
      go_wp2_with (go_at_call 98; refine HGT.out.mono ?_; rintro e w' ⟨rfl, rfl⟩)
      go_ret
      exact ⟨rfl, by simpa using hfin.out⟩
    · by_cases hn0 : 0 < n
      · obtain ⟨b, o, rfl, -⟩ := HA.out hn0
        have hfin := hide (HEND.out (some ⟨b, o + r2, none⟩) (c - r2) (fun _ b' o' hh => by injection hh with hh; injection hh with h1 h2 _; rw [h1, h2]) rfl)
        clear HEND
        have hlc : r2 < c := by omega
        go_enter Tryd.func97, Tryd.ntmps97
        go_wp2_with (go_at_call 98; refine HGT.out.mono ?_; rintro e w' ⟨rfl, rfl⟩)
        go_ret
        exact ⟨rfl, hfin.out⟩
      · have hr0 : r2 = 0 := by omega
        subst hr0
        have hn1 : n = 0 := by omega
        subst hn1
        have hfin := hide (HEND.out A c (fun hh => absurd hh (by omega)) (by omega))
        clear HEND
        have hlc : 0 < c := by omega
        rcases A with _ | ⟨b, o, sp⟩
        all_goals
          go_enter Tryd.func97, Tryd.ntmps97
          go_wp2_with (go_at_call 98; refine HGT.out.mono ?_; rintro e w' ⟨rfl, rfl⟩)
          go_ret
          exact ⟨rfl, by simpa using hfin.out⟩
  · have hv := hide (show numT (zs, E) = (0, (zs, E)) by unfold numT; rw [if_neg hE])
    have hEb : ((E : Int) != 0) = true := by simp; omega
    obtain ⟨y1, z1⟩ := hb.cell 1 (v := .int .i64 (E : Int)) rfl
    have hlt := hb.lt
    have H0 := hide h0
    clear hb hs hL hby h0 hE
    go_enter Tryd.func97, Tryd.ntmps97
    go_wp2
    go_ret
    rw [hv.out]
    exact ⟨rfl, H0.out, Read.refl _ _⟩

set_option maxRecDepth 100000 in
theorem takes_any (g B : Nat) (s : St) (w : World) (h : RS w g B s) :
    Calls Tryd.prog 97 #[.pointer (some ⟨g, 0, none⟩), .func (.func 108) #[] #[]] w fun e w' => e = .returned (.int .i64 (snumT s).1) ∧ ReadTo w g B (snumT s).2 w' := by
  have h0 := h
  obtain ⟨A, c, l0, l1, l2, l3, l4, hb, hs, hc, hm, hL, hby, hB⟩ := h
  obtain ⟨zs, E⟩ := s
  simp only at hb hs hc
  by_cases hE : E = 0
  · subst hE
    have hv := hide (show snumT (zs, 0) = (unz (rd 10 0 0 zs).1, (zs.drop (rd 10 0 0 zs).2.1, (rd 10 0 0 zs).2.2)) from rfl)
    have hsz := rd_size 10 zs 0 0
    obtain ⟨n, hn⟩ : ∃ n, zs.length = n := ⟨_, rfl⟩
    rw [hn] at hb hc hsz
    have hG := gets_any A n c zs w B hs hn hc (by omega) hby
    have hend := fun (A' : Option Addr) (d : Nat) (hA : (rd 10 0 0 zs).2.1 < n → ∀ b o, A = some ⟨b, o, none⟩ → A' = some ⟨b, o + (rd 10 0 0 zs).2.1, none⟩) (hd : d = c - (rd 10 0 0 zs).2.1) => num_end (E := (rd 10 0 0 zs).2.2) hb hs hn hc hm hL hby hB hA hd (by omega)
    have HA := hide (fun (hp : 0 < n) => hs (by omega))
    have HEND := hide hend
    have HGT := hide hG
    obtain ⟨a0, a1, a2, a3, a4, c0, c1, c2, c3, c4, rfl, rfl, rfl, rfl, rfl⟩ := hL.open'
    obtain ⟨y0, z0⟩ := hb.cell 0 (v := .slice A n c) rfl
    obtain ⟨y1, z1⟩ := hb.cell 1 (v := .int .i64 0) rfl
    have hlt := hb.lt
    rw [hv.out]
    clear hv hG hend hb hs hL hby h0 hn
    generalize rd 10 0 0 zs = r at *
    obtain ⟨r1, r2, r3⟩ := r
    simp only at *
    generalize zs.drop r2 = zd at *
    by_cases hcm : c = r2
    · have hnr : n = r2 := by omega
      subst hnr
      subst hcm
      have hfin := hide (HEND.out A 0 (fun hh => absurd hh (by omega)) (by omega))
      clear HEND
      go_enter Tryd.func97, Tryd.ntmps97
      go_wp2_with (go_at_call 108; refine HGT.out.mono ?_; rintro e w' ⟨rfl, rfl⟩)
      go_ret
      exact ⟨rfl, by simpa using hfin.out⟩
    · by_cases hn0 : 0 < n
      · obtain ⟨b, o, rfl, -⟩ := HA.out hn0
        have hfin := hide (HEND.out (some ⟨b, o + r2, none⟩) (c - r2) (fun _ b' o' hh => by injection hh with hh; injection hh with h1 h2 _; rw [h1, h2]) rfl)
        clear HEND
        have hlc : r2 < c := by omega
        go_enter Tryd.func97, Tryd.ntmps97
        go_wp2_with (go_at_call 108; refine HGT.out.mono ?_; rintro e w' ⟨rfl, rfl⟩)
        go_ret
        exact ⟨rfl, hfin.out⟩
      · have hr0 : r2 = 0 := by omega
        subst hr0
        have hn1 : n = 0 := by omega
        subst hn1
        have hfin := hide (HEND.out A c (fun hh => absurd hh (by omega)) (by omega))
        clear HEND
        have hlc : 0 < c := by omega
        rcases A with _ | ⟨b, o, sp⟩
        all_goals
          go_enter Tryd.func97, Tryd.ntmps97
          go_wp2_with (go_at_call 108; refine HGT.out.mono ?_; rintro e w' ⟨rfl, rfl⟩)
          go_ret
          exact ⟨rfl, by simpa using hfin.out⟩
  · have hv := hide (show snumT (zs, E) = (0, (zs, E)) by unfold snumT; rw [if_neg hE])
    have hEb : ((E : Int) != 0) = true := by simp; omega
    obtain ⟨y1, z1⟩ := hb.cell 1 (v := .int .i64 (E : Int)) rfl
    have hlt := hb.lt
    have H0 := hide h0
    clear hb hs hL hby h0 hE
    go_enter Tryd.func97, Tryd.ntmps97
    go_wp2
    go_ret
    rw [hv.out]
    exact ⟨rfl, H0.out, Read.refl _ _⟩

set_option maxRecDepth 100000 in
theorem number_any' (g B : Nat) (s : St) (w : World) (h : RS w g B s) :
    Calls Tryd.prog 81 #[.pointer (some ⟨g, 0, none⟩)] w fun e w' => e = .returned (.int .i64 (numT s).1) ∧ ReadTo w g B (numT s).2 w' := by
  have H := hide (take_any g B s w h)
  clear h
  generalize numT s = r at *
  go_enter Tryd.func81, Tryd.ntmps81
  go_wp2_with (go_at_call 97; refine H.out.mono ?_; rintro e w1 ⟨rfl, hr⟩)
  go_ret
  exact ⟨rfl, hr⟩
end Go.Proofs.YtpggjolbohffjaaDoor
