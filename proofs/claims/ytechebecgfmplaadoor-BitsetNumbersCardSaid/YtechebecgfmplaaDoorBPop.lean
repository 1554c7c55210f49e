/- How many bits of a word are 1, as math/bits reckons it: bytes side by side. No condition. -/
import Derived.Test.YtechebecgfmplaaDoorBWord
namespace Go.Proofs.YtechebecgfmplaaDoor

theorem and_dig (a b c d : Nat) (ha : a < 256) (hc : c < 256) : (a + 256 * b) &&& (c + 256 * d) = (a &&& c) + 256 * (b &&& d) := by
  have h1 : (a &&& c) < 256 := Nat.lt_of_le_of_lt Nat.and_le_left ha
  apply Nat.eq_of_testBit_eq
  intro i
  have e : ∀ x y : Nat, x < 256 → x + 256 * y = 2 ^ 8 * y + x := fun x y _ => by omega
  rw [e a b ha, e c d hc, e _ _ h1, Nat.testBit_and, Nat.testBit_two_pow_mul_add _ (by omega), Nat.testBit_two_pow_mul_add _ (by omega), Nat.testBit_two_pow_mul_add _ (by omega)]
  split <;> simp

def g1 (m x : Nat) : Nat := ((x / 2) &&& m) + (x &&& m)
def g2 (m x : Nat) : Nat := ((x / 4) &&& m) + (x &&& m)
def g3 (m x : Nat) : Nat := (x / 16 + x) &&& m
/-- So many bytes, each as c. -/
def mask (c : Nat) : Nat → Nat
  | 0 => 0
  | k + 1 => c + 256 * mask c k
/-- The bits of each byte, in its place. -/
def popB : Nat → Nat → Nat
  | 0, _ => 0
  | k + 1, x => cntF (fun i => (x.testBit i).toNat) 8 + 256 * popB k (x / 256)

theorem b1 : ∀ d, d < 256 → ∀ r, r < 2 → ((d / 2 + 128 * r) &&& 85) + (d &&& 85) = g1 85 d ∧ g1 85 d < 256 := by decide +kernel
theorem b2 : ∀ d, d < 256 → ∀ r, r < 4 → ((g1 85 d / 4 + 64 * r) &&& 51) + (g1 85 d &&& 51) = g2 51 (g1 85 d) ∧ g2 51 (g1 85 d) < 69 ∧ g2 51 (g1 85 d) % 16 < 5 := by decide +kernel
theorem b3 : ∀ d, d < 256 → ∀ r, r < 5 → (g2 51 (g1 85 d) / 16 + 16 * r + g2 51 (g1 85 d)) < 256 ∧ (g2 51 (g1 85 d) / 16 + 16 * r + g2 51 (g1 85 d)) &&& 15 = cntF (fun i => (d.testBit i).toNat) 8 := by decide +kernel

theorem swar : ∀ (k x : Nat), x < 256 ^ k → g3 (mask 15 k) (g2 (mask 51 k) (g1 (mask 85 k) x)) = popB k x ∧ g2 (mask 51 k) (g1 (mask 85 k) x) % 16 < 5
  | 0, x, h => by
    have : x = 0 := by simpa using h
    subst this
    decide
  | k + 1, x, h => by
    have hd : x % 256 < 256 := Nat.mod_lt _ (by omega)
    have hy : x / 256 < 256 ^ k := by
      rw [Nat.div_lt_iff_lt_mul (by omega)]
      rw [Nat.pow_succ] at h; exact h
    obtain ⟨ih, ih5⟩ := swar k (x / 256) hy
    have hx : x = x % 256 + 256 * (x / 256) := by omega
    have hpop : popB (k + 1) x = cntF (fun i => ((x % 256).testBit i).toNat) 8 + 256 * popB k (x / 256) := by
      rw [popB]
      congr 1
      apply cntF_congr
      intro i hi
      rw [show 256 = 2 ^ 8 by rfl, Nat.testBit_mod_two_pow]
      simp [hi]
    rw [hpop]
    clear hpop
    generalize x % 256 = d at *
    generalize x / 256 = y at *
    subst hx
    have e1 : g1 (mask 85 (k + 1)) (d + 256 * y) = g1 85 d + 256 * g1 (mask 85 k) y := by
      have hb := (b1 d hd (y % 2) (by omega)).1
      rw [show mask 85 (k + 1) = 85 + 256 * mask 85 k from rfl]
      generalize mask 85 k = M
      unfold g1
      rw [show (d + 256 * y) / 2 = (d / 2 + 128 * (y % 2)) + 256 * (y / 2) by omega, and_dig _ _ _ _ (by omega) (by omega), and_dig _ _ _ _ hd (by omega)]
      unfold g1 at hb
      omega
    have hg1 := (b1 d hd 0 (by omega)).2
    generalize g1 (mask 85 k) y = y1 at *
    have e2 : g2 (mask 51 (k + 1)) (g1 85 d + 256 * y1) = g2 51 (g1 85 d) + 256 * g2 (mask 51 k) y1 := by
      have hb := (b2 d hd (y1 % 4) (by omega)).1
      rw [show mask 51 (k + 1) = 51 + 256 * mask 51 k from rfl]
      generalize mask 51 k = M
      generalize g1 85 d = d1 at *
      unfold g2 at hb ⊢
      rw [show (d1 + 256 * y1) / 4 = (d1 / 4 + 64 * (y1 % 4)) + 256 * (y1 / 4) by omega, and_dig _ _ _ _ (by omega) (by omega), and_dig _ _ _ _ hg1 (by omega)]
      omega
    have hg2 := (b2 d hd 0 (by omega)).2
    generalize g2 (mask 51 k) y1 = y2 at *
    have e3 : g3 (mask 15 (k + 1)) (g2 51 (g1 85 d) + 256 * y2) = cntF (fun i => (d.testBit i).toNat) 8 + 256 * g3 (mask 15 k) y2 := by
      have hb := b3 d hd (y2 % 16) ih5
      generalize cntF (fun i => (d.testBit i).toNat) 8 = p at *
      generalize g2 51 (g1 85 d) = d2 at *
      rw [show mask 15 (k + 1) = 15 + 256 * mask 15 k from rfl]
      generalize mask 15 k = M
      unfold g3
      rw [show (d2 + 256 * y2) / 16 + (d2 + 256 * y2) = (d2 / 16 + 16 * (y2 % 16) + d2) + 256 * (y2 / 16 + y2) by omega, and_dig _ _ _ _ hb.1 (by omega), hb.2]
    rw [e1, e2, e3, ih]
    refine ⟨rfl, ?_⟩
    omega

/-- The last three steps: the bytes' sum. -/
theorem sum8 {x : Nat} (h : x < 18446744073709551616) :
    (popB 8 x + popB 8 x / 256 + (popB 8 x + popB 8 x / 256) / 65536 + (popB 8 x + popB 8 x / 256 + (popB 8 x + popB 8 x / 256) / 65536) / 4294967296) % 128 = pop x ∧ popB 8 x ≤ 578721382704613384 := by
  have hb : ∀ x : Nat, cntF (fun i => (x.testBit i).toNat) 8 ≤ 8 := fun x => cntF_le (b := 1) (fun i => by cases x.testBit i <;> simp) 8
  have hs : ∀ j, cntF (fun i => ((x / 2 ^ j).testBit i).toNat) 8 = (x.testBit j).toNat + (x.testBit (j + 1)).toNat + (x.testBit (j + 2)).toNat + (x.testBit (j + 3)).toNat + (x.testBit (j + 4)).toNat + (x.testBit (j + 5)).toNat + (x.testBit (j + 6)).toNat + (x.testBit (j + 7)).toNat := fun j => by
    simp only [cntF, Nat.testBit_div_two_pow, Nat.zero_add, Nat.add_comm j]
  have hp : pop x = cntF (fun i => ((x / 2 ^ 0).testBit i).toNat) 8 + cntF (fun i => ((x / 2 ^ 8).testBit i).toNat) 8 + cntF (fun i => ((x / 2 ^ 16).testBit i).toNat) 8 + cntF (fun i => ((x / 2 ^ 24).testBit i).toNat) 8 + cntF (fun i => ((x / 2 ^ 32).testBit i).toNat) 8 + cntF (fun i => ((x / 2 ^ 40).testBit i).toNat) 8 + cntF (fun i => ((x / 2 ^ 48).testBit i).toNat) 8 + cntF (fun i => ((x / 2 ^ 56).testBit i).toNat) 8 := by
    rw [hs, hs, hs, hs, hs, hs, hs, hs]
    simp only [pop, cntF, Nat.zero_add, Nat.reduceAdd]
    omega
  have hB : popB 8 x = cntF (fun i => ((x / 2 ^ 0).testBit i).toNat) 8 + 256 * (cntF (fun i => ((x / 2 ^ 8).testBit i).toNat) 8 + 256 * (cntF (fun i => ((x / 2 ^ 16).testBit i).toNat) 8 + 256 * (cntF (fun i => ((x / 2 ^ 24).testBit i).toNat) 8 + 256 * (cntF (fun i => ((x / 2 ^ 32).testBit i).toNat) 8 + 256 * (cntF (fun i => ((x / 2 ^ 40).testBit i).toNat) 8 + 256 * (cntF (fun i => ((x / 2 ^ 48).testBit i).toNat) 8 + 256 * cntF (fun i => ((x / 2 ^ 56).testBit i).toNat) 8)))))) := by
    have e : ∀ a b : Nat, x / a / b = x / (a * b) := fun a b => Nat.div_div_eq_div_mul _ _ _
    simp only [popB, e, Nat.mul_zero, Nat.add_zero]
    simp only [Nat.reduceMul, Nat.reducePow, Nat.div_one]
  rw [hp, hB]
  have h0 := hb (x / 2 ^ 0)
  have h1 := hb (x / 2 ^ 8)
  have h2 := hb (x / 2 ^ 16)
  have h3 := hb (x / 2 ^ 24)
  have h4 := hb (x / 2 ^ 32)
  have h5 := hb (x / 2 ^ 40)
  have h6 := hb (x / 2 ^ 48)
  have h7 := hb (x / 2 ^ 56)
  clear hb hs hp hB h
  generalize cntF (fun i => ((x / 2 ^ 0).testBit i).toNat) 8 = c0 at *
  generalize cntF (fun i => ((x / 2 ^ 8).testBit i).toNat) 8 = c1 at *
  generalize cntF (fun i => ((x / 2 ^ 16).testBit i).toNat) 8 = c2 at *
  generalize cntF (fun i => ((x / 2 ^ 24).testBit i).toNat) 8 = c3 at *
  generalize cntF (fun i => ((x / 2 ^ 32).testBit i).toNat) 8 = c4 at *
  generalize cntF (fun i => ((x / 2 ^ 40).testBit i).toNat) 8 = c5 at *
  generalize cntF (fun i => ((x / 2 ^ 48).testBit i).toNat) 8 = c6 at *
  generalize cntF (fun i => ((x / 2 ^ 56).testBit i).toNat) 8 = c7 at *
  have q1 : (c0 + 256 * (c1 + 256 * (c2 + 256 * (c3 + 256 * (c4 + 256 * (c5 + 256 * (c6 + 256 * c7))))))) / 256 = c1 + 256 * (c2 + 256 * (c3 + 256 * (c4 + 256 * (c5 + 256 * (c6 + 256 * c7))))) := by omega
  rw [q1]
  clear q1
  have q2 : (c0 + 256 * (c1 + 256 * (c2 + 256 * (c3 + 256 * (c4 + 256 * (c5 + 256 * (c6 + 256 * c7)))))) + (c1 + 256 * (c2 + 256 * (c3 + 256 * (c4 + 256 * (c5 + 256 * (c6 + 256 * c7))))))) / 65536 =
      c2 + c3 + 256 * (c3 + c4) + 65536 * (c4 + c5) + 16777216 * (c5 + c6) + 4294967296 * (c6 + c7) + 1099511627776 * c7 := by omega
  rw [q2]
  clear q2
  have q3 : (c0 + 256 * (c1 + 256 * (c2 + 256 * (c3 + 256 * (c4 + 256 * (c5 + 256 * (c6 + 256 * c7)))))) + (c1 + 256 * (c2 + 256 * (c3 + 256 * (c4 + 256 * (c5 + 256 * (c6 + 256 * c7)))))) + (c2 + c3 + 256 * (c3 + c4) + 65536 * (c4 + c5) + 16777216 * (c5 + c6) + 4294967296 * (c6 + c7) + 1099511627776 * c7)) / 4294967296 =
      c4 + c5 + c6 + c7 + 256 * (c5 + c6 + c7) + 65536 * (c6 + c7) + 16777216 * c7 := by omega
  rw [q3]
  clear q3
  refine ⟨?_, by omega⟩
  rw [show c0 + 256 * (c1 + 256 * (c2 + 256 * (c3 + 256 * (c4 + 256 * (c5 + 256 * (c6 + 256 * c7)))))) + (c1 + 256 * (c2 + 256 * (c3 + 256 * (c4 + 256 * (c5 + 256 * (c6 + 256 * c7)))))) + (c2 + c3 + 256 * (c3 + c4) + 65536 * (c4 + c5) + 16777216 * (c5 + c6) + 4294967296 * (c6 + c7) + 1099511627776 * c7) + (c4 + c5 + c6 + c7 + 256 * (c5 + c6 + c7) + 65536 * (c6 + c7) + 16777216 * c7) =
    (c0 + c1 + c2 + c3 + c4 + c5 + c6 + c7) + 128 * (2 * (c1 + c2 + c3 + c4 + c5 + c6 + c7) + 512 * (c2 + c3 + c4 + c5 + c6 + c7) + 131072 * (c3 + c4 + c5 + c6 + c7) + 33554432 * (c4 + c5 + c6 + c7) + 8589934592 * (c5 + c6 + c7) + 2199023255552 * (c6 + c7) + 562949953421312 * c7) by omega, Nat.add_mul_mod_self_left, Nat.mod_eq_of_lt (by omega)]
theorem mask85 : mask 85 8 = 6148914691236517205 := by decide
theorem mask51 : mask 51 8 = 3689348814741910323 := by decide
theorem mask15 : mask 15 8 = 1085102592571150095 := by decide
end Go.Proofs.YtechebecgfmplaaDoor
