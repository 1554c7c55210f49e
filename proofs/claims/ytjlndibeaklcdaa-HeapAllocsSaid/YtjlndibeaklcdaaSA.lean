/- The contracts of shape's within, isValue, Last, and of what strings.ContainsAny calls. No condition but on letters. -/
import Derived.Test.YtjlndibeaklcdaaMB
import Derived.Lib.Bytealg
import Derived.Lib.Walk
import Derived.Test.YtjlndibeaklcdaaCGreat
import Derived.Deep.Cut
import Derived.Laws.EntriesVeiled
set_option linter.unusedSimpArgs false
set_option linter.unusedVariables false
namespace Go.Proofs.Ytjlndibeaklcdaa
open Go.RowKit

def inB (lo hi n : Int) : Bool := decide (lo ≤ n) && decide (n ≤ hi)
def valB (k : Int) : Bool := k == 0 || k == 1
def lastB (op : Int) : Bool := op == 21 || (op == 22 || op == 23)
theorem idx_mem (l : List UInt8) (c : UInt8) : decide (0 ≤ Lib.indexByte l c) = decide (c ∈ l) := by
  induction l with
  | nil => simp [Lib.indexByte]
  | cons b l ih =>
    unfold Lib.indexByte
    by_cases hb : b = c
    · subst hb; simp
    · have hbe : (b == c) = false := by simpa using hb
      rw [hbe]
      have hge := Lib.indexByte_ge l c
      by_cases h1 : Lib.indexByte l c = -1
      · rw [h1] at ih ⊢
        simp at ih ⊢
        exact ⟨fun h => hb h.symm, ih⟩
      · have h1b : (Lib.indexByte l c == -1) = false := by simpa using h1
        rw [h1b]
        simp only [Bool.false_eq_true, if_false]
        have : (0 ≤ Lib.indexByte l c) := by omega
        rw [decide_eq_true this] at ih
        have hm : c ∈ l := by simpa using ih.symm
        rw [decide_eq_true (show 0 ≤ Lib.indexByte l c + 1 by omega), decide_eq_true (show c ∈ b :: l by simp [hm])]
theorem strOf_mem {ls : List Nat} (hl : ∀ c ∈ ls, isLetter c) {c : Nat} (hc : isLetter c) : decide (UInt8.ofNat c ∈ (strOf ls).data.toList) = decide (c ∈ ls) := by
  have e : (strOf ls).data.toList = ls.map UInt8.ofNat := by simp [strOf]
  rw [e, decide_eq_decide, List.mem_map]
  constructor
  · rintro ⟨d, hd, h⟩
    have h1 := hl d hd
    have : d = c := by
      unfold isLetter at h1 hc
      have := congrArg UInt8.toNat h
      simp [UInt8.toNat_ofNat'] at this
      omega
    exact this ▸ hd
  · intro h; exact ⟨c, h, rfl⟩
end Go.Proofs.Ytjlndibeaklcdaa
namespace Go.Proofs.Ytjlndibeaklcdaa
open Go.RowKit

theorem str_pos {l : List Nat} (hl : ∀ c ∈ l, isLetter c) {s : ByteArray} (hs : strOf l = s) : s.size = l.length ∧ ∀ (k d : Nat), l[k]? = some d → ∀ hk : k < s.size, (s[k]'hk).toNat = d :=
  ⟨by rw [← hs, strOf_size], fun k d hd hk => by subst hs; exact strOf_get hl hd hk⟩
/-- What holds at the head of a round. -/
def AnyRel (ls cs : List Nat) (w : World) (wr : World) : Prop := ∃ k : Nat, k ≤ ls.length ∧ wr.heap[w.heap.size]? = some (.stringIter (strOf ls) k) ∧ Below w.heap.size w wr ∧ Hid ((ls.take k).any (fun c => decide (c ∈ cs)) = false)
def hasP (op : Int) (cs : List Nat) : Bool := (partsN op).any (fun c => decide (c ∈ cs))
theorem hasP_one (op : Int) (c : Nat) : hasP op [c] = decide (c ∈ partsN op) := by
  rw [Bool.eq_iff_iff]
  unfold hasP
  simp only [List.any_eq_true, List.mem_singleton, decide_eq_true_eq]
  exact ⟨fun ⟨x, h1, h2⟩ => h2 ▸ h1, fun h => ⟨c, h, rfl⟩⟩
end Go.Proofs.Ytjlndibeaklcdaa
namespace Go.Proofs.Ytjlndibeaklcdaa
open Go.RowKit

def refB (kinds : List Int) (v : Int) : Bool := inB 0 ((kinds.length : Int) - 1) v && decide (kinds[v.toNat]? = some 1)
def baseB4 (kinds : List Int) (k b : Int) : Bool := if k = 2 then refB kinds b else valB k && b == -1
def varsB4 (f : FunV) : Bool := (decide (f.base.length = f.kinds.length) && decide (f.kinds.length ≤ 48)) && (f.kinds.zip f.base).all (fun kb => baseB4 f.kinds kb.1 kb.2)
end Go.Proofs.Ytjlndibeaklcdaa
namespace Go.Proofs.Ytjlndibeaklcdaa
open Go.RowKit

def paramsB4 (f : FunV) : Bool := inB 0 (min 4 (f.kinds.length : Int)) f.params && (f.kinds.take f.params.toNat).all valB
theorem IntsV.takeV {w : World} {S : Nat → Prop} {A : Option Addr} {n c k : Nat} {zs : List Int} (h : IntsV w S (.slice A n c) zs) (hk : k ≤ zs.length) : IntsV w S (.slice A k c) (zs.take k) := by
  obtain ⟨A', c', e, h1, h2, h3⟩ := h
  injection e with e1 e2 e3
  subst e1 e3
  have hl : (zs.take k).length = k := by rw [List.length_take]; omega
  refine ⟨A, c, by rw [hl], by omega, h2, fun hp => ?_⟩
  obtain ⟨b, o, e, hb, hc⟩ := h3 (by omega)
  refine ⟨b, o, e, hb, fun j x hj => hc j x ?_⟩
  have hjk : j < k := by have := (List.getElem?_eq_some_iff.1 hj).1; omega
  rw [List.getElem?_take] at hj
  simpa [hjk] using hj
theorem any_not (F : Int → Bool) (zs : List Int) : (!zs.any (fun z => !F z)) = zs.all F := by
  rw [Bool.eq_iff_iff]; simp
end Go.Proofs.Ytjlndibeaklcdaa
namespace Go.Proofs.Ytjlndibeaklcdaa
open Go.RowKit

def endsB (l : List InsV) : Bool := (l.take (l.length - 1)).all (fun x => !lastB x.op) && (l.drop (l.length - 1)).all (fun x => lastB x.op)
theorem ends_hit {l : List InsV} {k : Nat} {x : InsV} (hx : l[k]? = some x) (hl : lastB x.op = true) (hno : (l.take k).any (fun x => lastB x.op) = false) : decide ((k : Int) = (l.length : Int) - 1) = endsB l := by
  have hk := (List.getElem?_eq_some_iff.1 hx).1
  unfold endsB
  by_cases he : k = l.length - 1
  · rw [decide_eq_true (by omega), ← he]
    have h1 : (l.take k).all (fun x => !lastB x.op) = true := by simpa using hno
    have h2 : l.drop k = [x] := by
      obtain ⟨_, hg⟩ := List.getElem?_eq_some_iff.1 hx
      rw [List.drop_eq_getElem_cons hk, hg, List.drop_of_length_le (by omega)]
    rw [h1, h2]
    simp [hl]
  · rw [decide_eq_false (by omega)]
    have h1 : (l.take (l.length - 1)).all (fun x => !lastB x.op) = false := by
      rw [List.all_eq_false]
      exact ⟨x, List.mem_of_getElem? (i := k) (by rw [List.getElem?_take]; simp [show k < l.length - 1 by omega, hx]), by simp [hl]⟩
    rw [h1]; rfl
theorem ends_none {l : List InsV} (hno : l.any (fun x => lastB x.op) = false) : decide ((-1 : Int) = (l.length : Int) - 1) = endsB l := by
  unfold endsB
  cases l with
  | nil => rfl
  | cons a l =>
    rw [decide_eq_false (by simp)]
    have hne : (a :: l).drop ((a :: l).length - 1) ≠ [] := by
      intro h
      have := congrArg List.length h
      simp at this
    obtain ⟨y, ys, hy⟩ := List.exists_cons_of_ne_nil hne
    have hm : y ∈ a :: l := List.mem_of_mem_drop (by rw [hy]; simp : y ∈ (a :: l).drop ((a :: l).length - 1))
    have hf : lastB y.op = false := by
      rw [List.any_eq_false] at hno
      simpa using hno y hm
    rw [hy]
    simp [hf]
def blockB4 (b : List InsV) : Bool := inB 1 40 (b.length : Int) && endsB b
def blocksB4 (bs : List (List InsV)) : Bool := inB 1 40 (bs.length : Int) && bs.all blockB4
def funB4 (f : FunV) : Bool := varsB4 f && (paramsB4 f && (valB f.result && blocksB4 f.blocks))
end Go.Proofs.Ytjlndibeaklcdaa
namespace Go.Proofs.Ytjlndibeaklcdaa
open Go.RowKit

/-- What the closures of a scope hold: the function's cells, the program's. -/
def ScopeP (w : World) (B hf hp : Nat) (p : List FunV) (f : FunV) : Prop :=
  ∃ Ak ck As cs A c, w.cell? ⟨hf, 0, none⟩ = some (.slice Ak f.kinds.length ck) ∧ w.cell? ⟨hf, 4, none⟩ = some (.slice As f.blocks.length cs) ∧ w.cell? ⟨hp, 0, none⟩ = some (.slice A p.length c) ∧
    FunsV w (· < B) (.slice A p.length c) p ∧ (hf < w.heap.size ∧ hp < w.heap.size ∧ B ≤ w.heap.size) ∧ f.kinds.length ≤ 9223372036854775807 ∧ f.blocks.length ≤ 9223372036854775807
theorem ScopeP.below {w w1 : World} {B hf hp : Nat} {p : List FunV} {f : FunV} (h : ScopeP w B hf hp p f) (hb : Below w.heap.size w w1) : ScopeP w1 B hf hp p f := by
  obtain ⟨Ak, ck, As, cs, A, c, h1, h2, h3, h4, ⟨h5, h6, h7⟩, h8⟩ := h
  have hs := hb.size
  exact ⟨Ak, ck, As, cs, A, c, (hb.cell (p := ⟨hf, 0, none⟩) h5).trans h1, (hb.cell (p := ⟨hf, 4, none⟩) h5).trans h2, (hb.cell (p := ⟨hp, 0, none⟩) h6).trans h3, h4.keep (up hb h7) (fun _ h => h), ⟨by omega, by omega, by omega⟩, h8⟩
def inVar (f : FunV) (v : Int) : Bool := inB 0 ((f.kinds.length : Int) - 1) v
def inBlk (f : FunV) (v : Int) : Bool := inB 1 ((f.blocks.length : Int) - 1) v
def calleeB (p : List FunV) (g a : Int) : Bool := inB 0 ((p.length : Int) - 1) g && decide ((p[g.toNat]?).map FunV.params = some a)
end Go.Proofs.Ytjlndibeaklcdaa
