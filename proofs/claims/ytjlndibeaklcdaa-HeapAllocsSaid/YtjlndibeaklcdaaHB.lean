/- Layer 9, the program: contracts of there, nowhere, Right, maySize, object, has, field. No condition. -/
import Derived.Test.YtjlndibeaklcdaaHA
set_option linter.unusedSimpArgs false
set_option linter.unusedVariables false
namespace Go.Proofs.Ytjlndibeaklcdaa
open Go.RowKit

def thB (n : Nat) (z : Int) : Bool := decide (1 ≤ z) && decide (z ≤ (n : Int))
theorem rfB_th (n : Nat) (z : Int) : rfB n z = (decide (z = 0) || thB n z) := by
  unfold rfB thB
  rw [Bool.eq_iff_iff]; simp; omega
set_option maxRecDepth 100000 in
theorem hthere_any (Ao : Option Addr) (n c : Nat) (z : Int) (w : World) :
    Calls Try.prog 29 #[.agg #[.slice Ao n c], .int .i64 z] w fun e w' => e = .returned (.bool (thB n z)) ∧ Below w.heap.size w w' := by
  unfold thB
  by_cases h : 1 ≤ z
  · have hd : decide (1 ≤ z) = true := by simpa using h
    rw [hd]
    go_enter Try.func29, Try.ntmps29
    go_wp2
    go_ret
    exact ⟨by simp, alloc1 w _⟩
  · have hd : decide (1 ≤ z) = false := by simpa using h
    rw [hd]
    go_enter Try.func29, Try.ntmps29
    go_wp2
    go_ret
    exact ⟨by simp, alloc1 w _⟩
set_option maxRecDepth 100000 in
theorem hnow1_any (Ao : Option Addr) (n c : Nat) (z : Int) (hb : Nat) (w : World) (hx : Box w hb #[.slice Ao n c] 24) :
    Calls Try.prog 37 #[.int .i64 z, .pointer (some ⟨hb, 0, none⟩)] w fun e w' => e = .returned (.bool (!rfB n z)) ∧ Below w.heap.size w w' := by
  have HT := hide (fun W => hthere_any Ao n c z W)
  have c0 := (hx.cell 0 (v := .slice Ao n c) rfl).1
  have hl := hx.lt
  clear hx
  by_cases h0 : z = 0
  · subst h0
    have hr : rfB n 0 = true := rfB_iff.2 ⟨by omega, by omega⟩
    rw [hr]
    clear HT hr
    go_enter Try.func37, Try.ntmps37
    go_wp2
    go_ret
    exact ⟨rfl, Below.refl _ _⟩
  · have hr : rfB n z = thB n z := by rw [rfB_th]; simp [h0]
    rw [hr]
    have hd : (z == 0) = false := by simpa using h0
    have hd2 : (z != 0) = true := by simpa using h0
    clear hr h0
    generalize thB n z = b at *
    go_enter Try.func37, Try.ntmps37
    go_wp2_with (go_at_call 29; refine (HT.out w).mono ?_; rintro e w1 ⟨rfl, hb1⟩)
    go_ret
    exact ⟨rfl, hb1⟩
theorem hnow_any (Ao : Option Addr) (n c : Nat) (w : World) :
    Calls Try.prog 26 #[.agg #[.slice Ao n c]] w fun e w' => ∃ hb, e = .returned (.func (.func 37) #[] #[.pointer (some ⟨hb, 0, none⟩)]) ∧ w.heap.size ≤ hb ∧ Box w' hb #[.slice Ao n c] 24 ∧ Below w.heap.size w w' := by
  go_enter Try.func26, Try.ntmps26
  go_wp2
  go_ret
  exact ⟨w.heap.size, rfl, Nat.le_refl _, Box.new w _ _, alloc1 w _⟩
set_option maxRecDepth 100000 in
theorem hidx_any (zs : List Int) (va : Value) (hb : Nat) (Ao : Option Addr) (n c : Nat) (w : World) (B : Nat) (hB : B ≤ w.heap.size) (hx : IntsV w (· < B) va zs) (hbx : Box w hb #[.slice Ao n c] 24) :
    Calls Try.prog 38 #[va, .func (.func 37) #[] #[.pointer (some ⟨hb, 0, none⟩)]] w fun e w' => ∃ z, e = .returned (.int .i64 z) ∧ decide (0 ≤ z) = !zs.all (rfB n) ∧ Below w.heap.size w w' := by
  have HC := hide (fun (z : Int) (W : World) (hW : Below w.heap.size w W) => hnow1_any Ao n c z hb W (hbx.below hW))
  have HK := hide (fun (W : World) (hW : Below w.heap.size w W) => hx.keep (up hW hB) (fun _ h => h))
  obtain ⟨A, ca, rfl, hc, hm⟩ := hx.open'
  obtain ⟨m, hn⟩ : ∃ m, zs.length = m := ⟨_, rfl⟩
  rw [hn] at hc HK ⊢
  have HN := hide hn
  clear hn hx hbx
  go_enter Try.func38, Try.ntmps38
  go_wp2
  go_loopw [8] (fun i wr => ∃ k : Nat, k ≤ m ∧ i = .int .i64 k ∧ Below w.heap.size w wr ∧ Hid ((zs.take k).all (rfB n) = true)) (fun i _ => m - (intOf i).toNat)
  case atStart => exact ⟨0, Nat.zero_le _, rfl, Below.refl _ _, hide (by simp)⟩
  case round =>
    obtain ⟨k, hk, rfl, hb, hno⟩ := hrel
    have hsz := hb.size
    have HB := hide hb
    clear hb
    by_cases hlt : k < m
    · obtain ⟨y, hy⟩ : ∃ y, zs[k]? = some y := ⟨_, List.getElem?_eq_getElem (by have := HN.out; omega)⟩
      obtain ⟨b, o, rfl, hbb, e0, hR⟩ := (HK.out wr HB.out).get hy
      have hbs : b < wr.heap.size := by omega
      have HY := hide hy
      have HC1 := hide (HC.out y wr HB.out)
      clear hy
      cases hf : rfB n y with
      | false =>
        rw [hf] at HC1
        have hv := hide (show zs.all (rfB n) = false from allB_not HY.out hf)
        clear hf
        go_wp2_with (go_at_call 37; refine (HC1.out).mono ?_; rintro e w3 ⟨rfl, hb3⟩)
        go_ret
        exact ⟨k, rfl, by rw [hv.out]; simp, HB.out.trans (hb3.mono hsz)⟩
      | true =>
        rw [hf] at HC1
        have hv := hide (show (zs.take (k + 1)).all (rfB n) = true from allB_take hno.out HY.out hf)
        clear hf
        go_wp2_with (go_at_call 37; refine (HC1.out).mono ?_; rintro e w3 ⟨rfl, hb3⟩)
        go_roundw
        case rel => exact ⟨k + 1, by omega, by go_num, HB.out.trans (hb3.mono hsz), hv⟩
        case measure => simp [intOf]; omega
    · have hv := hide (show zs.all (rfB n) = true from allB_end hno.out HN.out (by omega))
      go_wp2
      go_ret
      exact ⟨-1, rfl, by rw [hv.out]; rfl, HB.out⟩
set_option maxRecDepth 100000 in
theorem hcont_any (zs : List Int) (va : Value) (hb : Nat) (Ao : Option Addr) (n c : Nat) (w : World) (B : Nat) (hB : B ≤ w.heap.size) (hx : IntsV w (· < B) va zs) (hbx : Box w hb #[.slice Ao n c] 24) :
    Calls Try.prog 27 #[va, .func (.func 37) #[] #[.pointer (some ⟨hb, 0, none⟩)]] w fun e w' => e = .returned (.bool (!zs.all (rfB n))) ∧ Below w.heap.size w w' := by
  have H := hide (hidx_any zs va hb Ao n c w B hB hx hbx)
  obtain ⟨A, ca, rfl, -, -⟩ := hx.open'
  generalize (!zs.all (rfB n)) = b at *
  generalize zs.length = m at *
  clear hx hbx
  go_enter Try.func27, Try.ntmps27
  go_wp2_with (go_at_call 38; refine H.out.mono ?_; rintro e w' ⟨z, rfl, hz, hb⟩; have HZ := hide hz; clear hz)
  go_ret
  exact ⟨ret_bool HZ.out, hb⟩
end Go.Proofs.Ytjlndibeaklcdaa
