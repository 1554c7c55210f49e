/- The reference's reader of layer 3: GetSigned, num, signed, upto: they do what the program's own reader does ('numT', 'snumT'). -/
import Derived.Test.YtkimocfofihjbaaDoorRRd
import Derived.Test.YtkimocfofihjbaaDoorMD
set_option linter.unusedSimpArgs false
set_option linter.unusedVariables false
namespace Go.Proofs.YtkimocfofihjbaaDoor
open Go.RowKit

set_option maxRecDepth 100000 in
theorem rgets_any (A : Option Addr) (n c : Nat) (zs : List Int) (w : World) (B : Nat) (hr : Sl w B .u8 A zs) (hn : zs.length = n) (hc : n ≤ c) (hmax : n ≤ 9223372036854775807) (hby : ∀ z ∈ zs, 0 ≤ z ∧ z ≤ 255) :
    Calls Tryd.prog 39 #[.slice A n c] w fun e w' => e = .returned (.tuple #[.int .i64 (unz (rd 10 0 0 zs).1), .int .i64 (rd 10 0 0 zs).2.1, .int .i64 (rd 10 0 0 zs).2.2]) ∧ w = w' := by
  have HC := hide (rread_any A n c 10 zs w B hr hn hc hmax (by omega) (by omega) hby)
  have hlt := rd_lt 10 (by omega) zs 0 0 hby (fun _ => by simp)
  clear hr hn hby
  generalize rd 10 0 0 zs = R at *
  obtain ⟨u, i, e⟩ := R
  simp only at HC hlt ⊢
  by_cases h : u % 2 = 1
  · have HV := hide (show unz u = -((u : Int) / 2) - 1 by
      unfold unz; rw [if_pos h]; omega)
    have h2 : ((u : Int) % 2 == 1) = true := by simp; omega
    have h3 : ((u : Int) % 2) = 1 := by omega
    clear h
    go_enter Tryd.func39, Tryd.ntmps39
    go_wp2_with (go_at_call 38; refine (HC.out).mono ?_; rintro e w2 ⟨rfl, rfl⟩)
    go_ret3
    rw [HV.out]
    exact ⟨rfl, rfl⟩
  · have HV := hide (show unz u = (u : Int) / 2 by
      unfold unz; rw [if_neg h]; omega)
    have h2 : ((u : Int) % 2 == 1) = false := by simp; omega
    have h3 : ((u : Int) % 2) = 0 := by omega
    clear h
    go_enter Tryd.func39, Tryd.ntmps39
    go_wp2_with (go_at_call 38; refine (HC.out).mono ?_; rintro e w2 ⟨rfl, rfl⟩)
    go_ret3
    rw [HV.out]
    exact ⟨rfl, rfl⟩

/-- The reference's reader: what is left of the bytes, the first error. B: below it lie the bytes. -/
def RSr (w : World) (g B : Nat) (s : St) : Prop :=
  ∃ A c, Box w g #[.slice A s.1.length c, .int .i64 (s.2 : Int)] 53 ∧ Sl w B .u8 A s.1 ∧ s.1.length ≤ c ∧ c ≤ 9223372036854775807 ∧ Byt s ∧ B ≤ g
theorem RSr.lt {w : World} {g B : Nat} {s : St} (h : RSr w g B s) : B ≤ g ∧ g < w.heap.size := by
  obtain ⟨A, c, hb, -, -, -, -, hB⟩ := h
  exact ⟨hB, hb.lt⟩
theorem RSr.byt {w : World} {g B : Nat} {s : St} (h : RSr w g B s) : Byt s := by
  obtain ⟨A, c, -, -, -, -, hb, -⟩ := h
  exact hb
theorem RSr.below {w w1 : World} {g B : Nat} {s : St} (h : RSr w g B s) (hb : Below w.heap.size w w1) : RSr w1 g B s := by
  obtain ⟨A, c, hbx, hs, h1, h2, h3, hB⟩ := h
  have hlt := hbx.lt
  exact ⟨A, c, hbx.below hb, hs.below (hb.mono (by omega)), h1, h2, h3, hB⟩
theorem RSr.alloc {w : World} {g B : Nat} {s : St} (h : RSr w g B s) (o : Obj) : RSr (w.alloc o) g B s := h.below ((Below.refl _ _).alloc (Nat.le_refl _) _)
theorem RSr.set {w : World} {g B b j : Nat} {v : Value} {s : St} (h : RSr w g B s) (hb : g < b) : RSr (w.setCell ⟨b, j, none⟩ v) g B s := by
  obtain ⟨A, c, hbx, hs, h1, h2, h3, hB⟩ := h
  have hbel : Below b w (w.setCell ⟨b, j, none⟩ v) := (Below.refl _ _).setCell (p := ⟨b, j, none⟩) (Nat.le_refl _) _
  exact ⟨A, c, hbx.belowB hbel hb, hs.below (hbel.mono (by omega)), h1, h2, h3, hB⟩
theorem RSr.drewN {w : World} {g B : Nat} {s : St} (h : RSr w g B s) (q : Nat) : RSr (w.drewN q) g B s := h
/-- What a reader's method leaves. -/
structure ReadTr (w : World) (g B : Nat) (s : St) (w' : World) : Prop where
  rs : RSr w' g B s
  read : Read g w w'
theorem RSr.fail {w : World} {g B E : Nat} {s : St} (h : RSr w g B s) : ReadTr w g B (s.1, E) (w.setCell ⟨g, 1, none⟩ (.int .i64 (E : Int))) := by
  obtain ⟨A, c, hb, hs, hc, hm, hby, hB⟩ := h
  have hbel : Below g w (w.setCell ⟨g, 1, none⟩ (.int .i64 (E : Int))) := (Below.refl _ _).setCell (p := ⟨g, 1, none⟩) (Nat.le_refl _) _
  refine ⟨⟨A, c, ?_, hs.below (hbel.mono hB), hc, hm, hby, hB⟩, (Read.refl _ _).set (Or.inr rfl)⟩
  have := hb.set 1 (.int .i64 (E : Int))
  simpa using this
theorem RSr.see {w : World} {g B : Nat} {s : St} (h : RSr w g B s) : w.cell? ⟨g, 1, none⟩ = some (.int .i64 (s.2 : Int)) ∧ w.frozen? ⟨g, 1, none⟩ = false := by
  obtain ⟨A, c, hb, -⟩ := h
  exact hb.cell 1 rfl
theorem ReadTr.trans {w w1 w2 : World} {g B : Nat} {s t : St} (h : ReadTr w g B s w1) (h2 : ReadTr w1 g B t w2) : ReadTr w g B t w2 := ⟨h2.rs, h.read.trans h2.read⟩
theorem ReadTr.mid {w w1 w2 : World} {g B : Nat} {s t : St} (h : ReadTr w g B s w1) (h2 : RSr w1 g B s → ReadTr w1 g B t w2) : ReadTr w g B t w2 := h.trans (h2 h.rs)
theorem numr_end {w : World} {g B n m c d : Nat} {A A' : Option Addr} {zs : List Int}
    (hb : Box w g #[.slice A n c, .int .i64 0] 53) (hs : Sl w B .u8 A zs) (hn : zs.length = n) (hc : n ≤ c) (hm : c ≤ 9223372036854775807) (hby : Byt (zs, 0)) (hB : B ≤ g)
    (hA : m < n → ∀ b o, A = some ⟨b, o, none⟩ → A' = some ⟨b, o + m, none⟩) (hd : d = c - m) (hmn : m ≤ n) :
    ReadTr w g B (zs.drop m, 0) (w.setCell ⟨g, 0, none⟩ (.slice A' (n - m) d)) := by
  subst hd hn
  have hbel : Below g w (w.setCell ⟨g, 0, none⟩ (.slice A' (zs.length - m) (c - m))) := (Below.refl _ _).setCell (p := ⟨g, 0, none⟩) (Nat.le_refl _) _
  refine ⟨⟨A', c - m, ?_, (hs.drop hA).below (hbel.mono hB), by simp; omega, by omega, Byt.drop hby, hB⟩, (Read.refl _ _).set (Or.inr rfl)⟩
  have := hb.set 0 (.slice A' (zs.length - m) (c - m))
  simpa using this

set_option maxRecDepth 100000 in
theorem rdnum_any (g B : Nat) (s : St) (w : World) (h : RSr w g B s) :
    Calls Tryd.prog 14 #[.pointer (some ⟨g, 0, none⟩)] w fun e w' => e = .returned (.int .i64 (numT s).1) ∧ ReadTr w g B (numT s).2 w' := by
  have h0 := h
  obtain ⟨A, c, hb, hs, hc, hm, hby, hB⟩ := h
  obtain ⟨zs, E⟩ := s
  simp only at hb hs hc
  by_cases hE : E = 0
  · subst hE
    have hv := hide (show numT (zs, 0) = (((rd 9 0 0 zs).1 : Int), (zs.drop (rd 9 0 0 zs).2.1, (rd 9 0 0 zs).2.2)) from rfl)
    have hsz := rd_size 9 zs 0 0
    have her := rd_err 9 zs 0 0
    obtain ⟨n, hn⟩ : ∃ n, zs.length = n := ⟨_, rfl⟩
    rw [hn] at hb hc hsz
    have hG := rget_any A n c zs w B hs hn hc (by omega) hby
    have hend := fun (A' : Option Addr) (d : Nat) (hA : (rd 9 0 0 zs).2.1 < n → ∀ b o, A = some ⟨b, o, none⟩ → A' = some ⟨b, o + (rd 9 0 0 zs).2.1, none⟩) (hd : d = c - (rd 9 0 0 zs).2.1) => numr_end hb hs hn hc hm hby hB hA hd (by omega)
    have HA := hide (fun (hp : 0 < n) => hs (by omega))
    have HEND := hide hend
    have HGT := hide hG
    have HF := hide (fun E' => RSr.fail (E := E') h0)
    obtain ⟨y0, z0⟩ := hb.cell 0 (v := .slice A n c) rfl
    obtain ⟨y1, z1⟩ := hb.cell 1 (v := .int .i64 0) rfl
    have hlt := hb.lt
    rw [hv.out]
    clear hv hG hend hb hs hby h0 hn
    by_cases he : (rd 9 0 0 zs).2.2 = 0
    · clear HF her
      generalize rd 9 0 0 zs = r at *
      obtain ⟨r1, r2, r3⟩ := r
      simp only at *
      subst he
      generalize zs.drop r2 = zd at *
      by_cases hcm : c = r2
      · have hnr : n = r2 := by omega
        subst hnr
        subst hcm
        have hfin := hide (HEND.out A 0 (fun hh => absurd hh (by omega)) (by omega))
        clear HEND
        go_enter Tryd.func14, Tryd.ntmps14
        go_wp2_with (go_at_call 24; refine HGT.out.mono ?_; rintro e w' ⟨rfl, rfl⟩)
        go_ret
        exact ⟨rfl, by simpa using hfin.out⟩
      · by_cases hn0 : 0 < n
        · obtain ⟨b, o, rfl, -⟩ := HA.out hn0
          have hfin := hide (HEND.out (some ⟨b, o + r2, none⟩) (c - r2) (fun _ b' o' hh => by injection hh with hh; injection hh with h1 h2 _; rw [h1, h2]) rfl)
          clear HEND
          have hlc : r2 < c := by omega
          go_enter Tryd.func14, Tryd.ntmps14
          go_wp2_with (go_at_call 24; refine HGT.out.mono ?_; rintro e w' ⟨rfl, rfl⟩)
          go_ret
          exact ⟨rfl, hfin.out⟩
        · have hr0 : r2 = 0 := by omega
          subst hr0
          have hn1 : n = 0 := by omega
          subst hn1
          have hfin := hide (HEND.out A c (fun hh => absurd hh (by omega)) (by omega))
          clear HEND
          have hlc : 0 < c := by omega
          rcases A with _ | ⟨b, o, sp⟩
          all_goals
            go_enter Tryd.func14, Tryd.ntmps14
            go_wp2_with (go_at_call 24; refine HGT.out.mono ?_; rintro e w' ⟨rfl, rfl⟩)
            go_ret
            exact ⟨rfl, by simpa using hfin.out⟩
    · obtain ⟨e1, e2⟩ := her he
      have hfin := hide (HF.out (rd 9 0 0 zs).2.2)
      have HZ := hide (show zs.drop (rd 9 0 0 zs).2.1 = zs by rw [e2]; rfl)
      have hz0 := hide (show ((rd 9 0 0 zs).1 : Int) = 0 by rw [e1]; rfl)
      clear HEND HF e1 e2 hsz her
      rw [HZ.out, hz0.out]
      clear HZ hz0
      generalize rd 9 0 0 zs = r at *
      obtain ⟨r1, r2, r3⟩ := r
      simp only at *
      have hEb : ((r3 : Int) != 0) = true := by simp; omega
      go_enter Tryd.func14, Tryd.ntmps14
      go_wp2_with (go_at_call 24; refine HGT.out.mono ?_; rintro e w' ⟨rfl, rfl⟩)
      go_ret
      exact ⟨rfl, hfin.out⟩
  · have hv := hide (show numT (zs, E) = (0, (zs, E)) by unfold numT; rw [if_neg hE])
    have hEb : ((E : Int) != 0) = true := by simp; omega
    obtain ⟨y1, z1⟩ := hb.cell 1 (v := .int .i64 (E : Int)) rfl
    have hlt := hb.lt
    have H0 := hide h0
    clear hb hs hby h0 hE
    go_enter Tryd.func14, Tryd.ntmps14
    go_wp2
    go_ret
    rw [hv.out]
    exact ⟨rfl, H0.out, Read.refl _ _⟩

set_option maxRecDepth 100000 in
theorem rdsig_any (g B : Nat) (s : St) (w : World) (h : RSr w g B s) :
    Calls Tryd.prog 25 #[.pointer (some ⟨g, 0, none⟩)] w fun e w' => e = .returned (.int .i64 (snumT s).1) ∧ ReadTr w g B (snumT s).2 w' := by
  have h0 := h
  obtain ⟨A, c, hb, hs, hc, hm, hby, hB⟩ := h
  obtain ⟨zs, E⟩ := s
  simp only at hb hs hc
  by_cases hE : E = 0
  · subst hE
    have hv := hide (show snumT (zs, 0) = (unz (rd 10 0 0 zs).1, (zs.drop (rd 10 0 0 zs).2.1, (rd 10 0 0 zs).2.2)) from rfl)
    have hsz := rd_size 10 zs 0 0
    have her := rd_err 10 zs 0 0
    obtain ⟨n, hn⟩ : ∃ n, zs.length = n := ⟨_, rfl⟩
    rw [hn] at hb hc hsz
    have hG := rgets_any A n c zs w B hs hn hc (by omega) hby
    have hend := fun (A' : Option Addr) (d : Nat) (hA : (rd 10 0 0 zs).2.1 < n → ∀ b o, A = some ⟨b, o, none⟩ → A' = some ⟨b, o + (rd 10 0 0 zs).2.1, none⟩) (hd : d = c - (rd 10 0 0 zs).2.1) => numr_end hb hs hn hc hm hby hB hA hd (by omega)
    have HA := hide (fun (hp : 0 < n) => hs (by omega))
    have HEND := hide hend
    have HGT := hide hG
    have HF := hide (fun E' => RSr.fail (E := E') h0)
    obtain ⟨y0, z0⟩ := hb.cell 0 (v := .slice A n c) rfl
    obtain ⟨y1, z1⟩ := hb.cell 1 (v := .int .i64 0) rfl
    have hlt := hb.lt
    rw [hv.out]
    clear hv hG hend hb hs hby h0 hn
    by_cases he : (rd 10 0 0 zs).2.2 = 0
    · clear HF her
      generalize rd 10 0 0 zs = r at *
      obtain ⟨r1, r2, r3⟩ := r
      simp only at *
      subst he
      generalize zs.drop r2 = zd at *
      by_cases hcm : c = r2
      · have hnr : n = r2 := by omega
        subst hnr
        subst hcm
        have hfin := hide (HEND.out A 0 (fun hh => absurd hh (by omega)) (by omega))
        clear HEND
        go_enter Tryd.func25, Tryd.ntmps25
        go_wp2_with (go_at_call 39; refine HGT.out.mono ?_; rintro e w' ⟨rfl, rfl⟩)
        go_ret
        exact ⟨rfl, by simpa using hfin.out⟩
      · by_cases hn0 : 0 < n
        · obtain ⟨b, o, rfl, -⟩ := HA.out hn0
          have hfin := hide (HEND.out (some ⟨b, o + r2, none⟩) (c - r2) (fun _ b' o' hh => by injection hh with hh; injection hh with h1 h2 _; rw [h1, h2]) rfl)
          clear HEND
          have hlc : r2 < c := by omega
          go_enter Tryd.func25, Tryd.ntmps25
          go_wp2_with (go_at_call 39; refine HGT.out.mono ?_; rintro e w' ⟨rfl, rfl⟩)
          go_ret
          exact ⟨rfl, hfin.out⟩
        · have hr0 : r2 = 0 := by omega
          subst hr0
          have hn1 : n = 0 := by omega
          subst hn1
          have hfin := hide (HEND.out A c (fun hh => absurd hh (by omega)) (by omega))
          clear HEND
          have hlc : 0 < c := by omega
          rcases A with _ | ⟨b, o, sp⟩
          all_goals
            go_enter Tryd.func25, Tryd.ntmps25
            go_wp2_with (go_at_call 39; refine HGT.out.mono ?_; rintro e w' ⟨rfl, rfl⟩)
            go_ret
            exact ⟨rfl, by simpa using hfin.out⟩
    · obtain ⟨e1, e2⟩ := her he
      have hfin := hide (HF.out (rd 10 0 0 zs).2.2)
      have HZ := hide (show zs.drop (rd 10 0 0 zs).2.1 = zs by rw [e2]; rfl)
      have hz0 := hide (show unz (rd 10 0 0 zs).1 = 0 by rw [e1]; rfl)
      clear HEND HF e1 e2 hsz her
      rw [HZ.out, hz0.out]
      clear HZ hz0
      generalize rd 10 0 0 zs = r at *
      obtain ⟨r1, r2, r3⟩ := r
      simp only at *
      have hEb : ((r3 : Int) != 0) = true := by simp; omega
      go_enter Tryd.func25, Tryd.ntmps25
      go_wp2_with (go_at_call 39; refine HGT.out.mono ?_; rintro e w' ⟨rfl, rfl⟩)
      go_ret
      exact ⟨rfl, hfin.out⟩
  · have hv := hide (show snumT (zs, E) = (0, (zs, E)) by unfold snumT; rw [if_neg hE])
    have hEb : ((E : Int) != 0) = true := by simp; omega
    obtain ⟨y1, z1⟩ := hb.cell 1 (v := .int .i64 (E : Int)) rfl
    have hlt := hb.lt
    have H0 := hide h0
    clear hb hs hby h0 hE
    go_enter Tryd.func25, Tryd.ntmps25
    go_wp2
    go_ret
    rw [hv.out]
    exact ⟨rfl, H0.out, Read.refl _ _⟩

end Go.Proofs.YtkimocfofihjbaaDoor
