/- Texts of several names, of which only what the statement needs is kept. -/
import Derived.Test.YteoopilmdlhkhaaDoorPaKG
import Derived.Test.YteoopilmdlhkhaaDoorPaKA
import Derived.Test.YteoopilmdlhkhaaDoorPaSW
import Derived.Deep.LoopGhost
import Derived.Deep.AppendLies
/- Layer 8, the program: contracts of Set, Fresh, and a law of ranging over a map of states. Condition: the table of parts reads as listed; the function is one of a program that may be. -/
set_option linter.unusedSimpArgs false
set_option linter.unusedVariables false
namespace Go.Proofs.YteoopilmdlhkhaaDoor
open Go.RowKit Go.Maps

/-- What holds at the beginning of a block, whichever number it has. -/
def KAtZ (f : FunV) (z : Int) (s : KSt) : Prop := (∃ b : Nat, z = b ∧ KAt f b s) ∨ (z < 0 ∧ s = ([], []))
theorem KAtZ.one {f : FunV} {z : Int} {s t : KSt} (h : KAtZ f z s) (h' : KAtZ f z t) : s = t := by
  rcases h with ⟨b, rfl, h⟩ | ⟨h1, h2⟩ <;> rcases h' with ⟨c, e, h'⟩ | ⟨h1', h2'⟩
  · obtain rfl : b = c := by omega
    exact h.one h'
  · omega
  · omega
  · rw [h2, h2']
theorem KAtZ.good {f : FunV} {z : Int} {s : KSt} (h : KAtZ f z s) : GoodK f s := by
  rcases h with ⟨b, rfl, h⟩ | ⟨h1, h2⟩
  · exact h.good
  · rw [h2]; exact GoodK.nil f
theorem SetV.nil (w : World) : SetV w (.slice none 0 0) [] := ⟨none, 0, rfl, Nat.le_refl _, by omega, Sl.nil _ _ _ _⟩
end Go.Proofs.YteoopilmdlhkhaaDoor

/- Layer 8, the program: contract of asked, at both that Check hands to it. Condition: the table of parts reads as listed; the program may be. -/
set_option linter.unusedSimpArgs false
set_option linter.unusedVariables false
namespace Go.Proofs.YteoopilmdlhkhaaDoor
open Go.RowKit Go.Maps

theorem BI.ask {f : FunV} {L : Nat → Option KSt} (hk : KOk f) (h : BI f L []) {b : Nat} (hp : Pth f 0 (b : Int)) {s : KSt} (hs : KAt f b s) : L b = some s := by
  obtain ⟨t, ht⟩ := (h.all hk b).2 hp
  have := h.at hk b
  rw [ht] at this
  rw [ht, hs.one this]
  rfl
end Go.Proofs.YteoopilmdlhkhaaDoor

/- Layer 8: own lists of instructions; the statement's tiny programs in memory. No condition. -/
set_option linter.unusedSimpArgs false
set_option linter.unusedVariables false
namespace Go.Proofs.YteoopilmdlhkhaaDoor
open Go.RowKit

def inC (x : InsV) : List Value := [.int .i64 x.op, .int .i64 x.d, .int .i64 x.a, .int .i64 x.b, .int .i64 x.n, .int .i64 x.m, .slice none 0 0]
def OwI (w : World) (base : Nat) (v : Value) (l : List InsV) : Prop := w.ownsRow base 28 7 v l.length (l.flatMap inC)
theorem flat7 : ∀ (l : List InsV) (j i : Nat) (y : InsV), l[j]? = some y → i < 7 → (l.flatMap inC)[j * 7 + i]? = (inC y)[i]?
  | [], j, i, y, h, _ => by simp at h
  | x :: l, 0, i, y, h, hi => by
    simp at h
    subst h
    rw [List.flatMap_cons, Nat.zero_mul, Nat.zero_add, List.getElem?_append_left (by exact hi)]
  | x :: l, j + 1, i, y, h, hi => by
    have h1 : (inC x).length = 7 := rfl
    rw [List.flatMap_cons, List.getElem?_append_right (by rw [h1, Nat.succ_mul]; omega), h1, show (j + 1) * 7 + i - 7 = j * 7 + i by rw [Nat.succ_mul]; omega]
    exact flat7 l j i y (by simpa using h) hi
theorem OwI.cells {w : World} {base g cap : Nat} {l : List InsV} (h : OwI w base (.slice (some ⟨g, 0, none⟩) l.length cap) l) {j : Nat} {y : InsV} (hy : l[j]? = some y) {i : Nat} {u : Value} (hu : (inC y)[i]? = some u) : w.cell? ⟨g, j * 7 + i, none⟩ = some u := by
  have hi : i < 7 := (List.getElem?_eq_some_iff.1 hu).1
  have hj : j < l.length := (List.getElem?_eq_some_iff.1 hy).1
  rw [World.ownsRow.cellAt h (j * 7 + i) (by omega), flat7 l j i y hy hi]
  exact hu
theorem flat7_len (l : List InsV) : (l.flatMap inC).length = l.length * 7 := by
  induction l with
  | nil => rfl
  | cons x l ih => rw [List.flatMap_cons, List.length_append, ih, List.length_cons, show (inC x).length = 7 from rfl]; omega
theorem OwI.lit (w : World) {base : Nat} (cs : Array Value) (l : List InsV) (n : Nat) (hn : l.length = n) (hb : base ≤ w.heap.size) (hm : n ≤ 100) (hs : cs.toList = l.flatMap inC) : OwI (w.alloc (.cells cs 28)) base (.slice (some ⟨w.heap.size, 0, none⟩) n n) l := by
  subst hn
  unfold OwI
  rw [← hs]
  exact World.ownsRow_lit w cs _ hb (by simp only [maxLen]; omega) (by rw [← Array.length_toList, hs, flat7_len])
theorem OwI.cap {w : World} {base g n cap : Nat} {l : List InsV} (h : OwI w base (.slice (some ⟨g, 0, none⟩) n cap) l) : l.length ≤ cap ∧ cap ≤ maxLen := by
  rcases h.2 with ⟨h, -⟩ | ⟨g', cap', cur, e, hg, hh, hnc, hcm, -⟩
  · cases h
  · injection e with _ _ e
    subst e
    exact ⟨hnc, hcm⟩
/-- A tiny program in memory: at K what tells its function lies, its code is the call's own. -/
def TinyK (w : World) (base K g cap : Nat) (l : List InsV) : Prop :=
  OwI w base (.slice (some ⟨g, 0, none⟩) l.length cap) l ∧ Box w K #[.int .i64 0, .int .i64 1, .int .i64 2] 3 ∧ Box w (K + 1) #[.int .i64 (-1), .int .i64 (-1), .int .i64 1] 3 ∧ Box w (K + 1 + 1) #[.slice (some ⟨g, 0, none⟩) l.length cap] 31 ∧
    Box w (K + 1 + 1 + 1) #[.slice (some ⟨K, 0, none⟩) 3 3, .slice (some ⟨K + 1, 0, none⟩) 3 3, .int .i64 0, .int .i64 0, .slice (some ⟨K + 1 + 1, 0, none⟩) 1 1] 34 ∧ base ≤ K ∧ base ≤ g ∧ l.length ≤ cap ∧ cap ≤ maxLen
end Go.Proofs.YteoopilmdlhkhaaDoor

/- Layer 8, the statements: the fixed fact. Condition: the tables read as listed. -/
set_option linter.unusedSimpArgs false
set_option linter.unusedVariables false
namespace Go.Proofs.YteoopilmdlhkhaaDoor
open Go.RowKit

def CodeAt (w : World) (g o : Nat) (l : List InsV) : Prop := g < w.heap.size ∧ ∀ (j : Nat) (y : InsV) (i : Nat) (u : Value), l[j]? = some y → (inC y)[i]? = some u → w.cell? ⟨g, o + j * 7 + i, none⟩ = some u
theorem CodeAt.of {w : World} {base g cap n : Nat} {l : List InsV} (h : OwI w base (.slice (some ⟨g, 0, none⟩) n cap) l) (hn : l.length = n) : CodeAt w g 0 l := by
  subst hn
  exact ⟨(World.ownsRow.lt h g rfl).2, fun j y i u hy hu => by rw [Nat.zero_add]; exact h.cells hy hu⟩
theorem CodeAt.below {w w' : World} {g o : Nat} {l : List InsV} (h : CodeAt w g o l) (hb : Below w.heap.size w w') : CodeAt w' g o l :=
  ⟨by have := hb.size; have := h.1; omega, fun j y i u hy hu => (hb.cell (p := ⟨g, o + j * 7 + i, none⟩) h.1).trans (h.2 j y i u hy hu)⟩
def TinyQ (w : World) (K g o cap : Nat) (l : List InsV) : Prop :=
  CodeAt w g o l ∧ Box w K #[.int .i64 0, .int .i64 1, .int .i64 2] 3 ∧ Box w (K + 1) #[.int .i64 (-1), .int .i64 (-1), .int .i64 1] 3 ∧ Box w (K + 1 + 1) #[.slice (some ⟨g, o, none⟩) l.length cap] 31 ∧
    Box w (K + 1 + 1 + 1) #[.slice (some ⟨K, 0, none⟩) 3 3, .slice (some ⟨K + 1, 0, none⟩) 3 3, .int .i64 0, .int .i64 0, .slice (some ⟨K + 1 + 1, 0, none⟩) 1 1] 34 ∧ l.length ≤ cap ∧ cap ≤ maxLen
theorem TinyK.q {w : World} {base K g cap : Nat} {l : List InsV} (h : TinyK w base K g cap l) : TinyQ w K g 0 cap l := ⟨CodeAt.of h.1 rfl, h.2.1, h.2.2.1, h.2.2.2.1, h.2.2.2.2.1, h.2.2.2.2.2.2.2.1, h.2.2.2.2.2.2.2.2⟩
theorem TinyQ.below {w w' : World} {K g o cap : Nat} {l : List InsV} (h : TinyQ w K g o cap l) (hb : Below w.heap.size w w') : TinyQ w' K g o cap l :=
  ⟨h.1.below hb, h.2.1.below hb, h.2.2.1.below hb, h.2.2.2.1.below hb, h.2.2.2.2.1.below hb, h.2.2.2.2.2⟩
end Go.Proofs.YteoopilmdlhkhaaDoor
