/- The contracts of shape's within, isValue, Last, and of what strings.ContainsAny calls. No condition but on letters. -/
import Derived.Test.YtbofnlaacjgclaaDoorPbMB
import Derived.Test.YtbofnlaacjgclaaDoorProg
import Derived.Lib.Bytealg
import Derived.Lib.Walk
import Derived.Deep.Cut
import Derived.Laws.EntriesVeiled
set_option linter.unusedSimpArgs false
set_option linter.unusedVariables false
namespace Go.Proofs.YtbofnlaacjgclaaDoor
open Go.RowKit

def inB (lo hi n : Int) : Bool := decide (lo ≤ n) && decide (n ≤ hi)
def valB (k : Int) : Bool := k == 0 || k == 1
def lastB (op : Int) : Bool := op == 21 || (op == 22 || op == 23)
set_option maxHeartbeats 1000000 in
set_option maxRecDepth 100000 in
theorem slIdx_any (s : ByteArray) (c : Int) (w : World) :
    Calls Tryd.prog 145 #[.string s, .int .u8 c] w fun e w' => e = .returned (.int .i64 (Lib.indexByte s.data.toList c.toNat.toUInt8)) ∧ w = w' := by
  go_enter Tryd.func145, Tryd.ntmps145
  go_wp2
  rw [run_callFunc_extern Tryd.func146 (by kernel_rfl) (by kernel_rfl) (by kernel_rfl) (e := Extern.BytealgIndexByte.indexByte) (by kernel_rfl), Lib.run_indexByteString]
  simp only [Result.andThen]
  rw [Oper.upon_value]
  go_wp2
  go_ret
  exact ⟨rfl, rfl⟩
theorem strIdx_any (s : ByteArray) (c : Int) (w : World) :
    Calls Tryd.prog 141 #[.string s, .int .u8 c] w fun e w' => e = .returned (.int .i64 (Lib.indexByte s.data.toList c.toNat.toUInt8)) ∧ w = w' := by
  go_enter Tryd.func141, Tryd.ntmps141
  go_wp2_with (go_at_call 145; refine (slIdx_any _ _ _).mono ?_; rintro e w' ⟨rfl, rfl⟩)
  go_ret
  exact ⟨rfl, rfl⟩
set_option maxRecDepth 100000 in
theorem idxRune_any (s : ByteArray) (c : Nat) (w : World) (hc : c < 128) :
    Calls Tryd.prog 133 #[.string s, .int .i32 (c : Int)] w fun e w' => e = .returned (.int .i64 (Lib.indexByte s.data.toList (UInt8.ofNat c))) ∧ w = w' := by
  have H := fun W => strIdx_any s (c : Int) W
  rw [show (c : Int).toNat.toUInt8 = UInt8.ofNat c from rfl] at H
  have HH := hide H
  clear H
  go_enter Tryd.func133, Tryd.ntmps133
  go_wp2_with (go_at_call 141; refine (HH.out _).mono ?_; rintro e w' ⟨rfl, rfl⟩)
  go_ret
  exact ⟨rfl, rfl⟩
theorem idx_mem (l : List UInt8) (c : UInt8) : decide (0 ≤ Lib.indexByte l c) = decide (c ∈ l) := by
  induction l with
  | nil => simp [Lib.indexByte]
  | cons b l ih =>
    unfold Lib.indexByte
    by_cases hb : b = c
    · subst hb; simp
    · have hbe : (b == c) = false := by simpa using hb
      rw [hbe]
      have hge := Lib.indexByte_ge l c
      by_cases h1 : Lib.indexByte l c = -1
      · rw [h1] at ih ⊢
        simp at ih ⊢
        exact ⟨fun h => hb h.symm, ih⟩
      · have h1b : (Lib.indexByte l c == -1) = false := by simpa using h1
        rw [h1b]
        simp only [Bool.false_eq_true, if_false]
        have : (0 ≤ Lib.indexByte l c) := by omega
        rw [decide_eq_true this] at ih
        have hm : c ∈ l := by simpa using ih.symm
        rw [decide_eq_true (show 0 ≤ Lib.indexByte l c + 1 by omega), decide_eq_true (show c ∈ b :: l by simp [hm])]
theorem strOf_mem {ls : List Nat} (hl : ∀ c ∈ ls, isLetter c) {c : Nat} (hc : isLetter c) : decide (UInt8.ofNat c ∈ (strOf ls).data.toList) = decide (c ∈ ls) := by
  have e : (strOf ls).data.toList = ls.map UInt8.ofNat := by simp [strOf]
  rw [e, decide_eq_decide, List.mem_map]
  constructor
  · rintro ⟨d, hd, h⟩
    have h1 := hl d hd
    have : d = c := by
      unfold isLetter at h1 hc
      have := congrArg UInt8.toNat h
      simp [UInt8.toNat_ofNat'] at this
      omega
    exact this ▸ hd
  · intro h; exact ⟨c, h, rfl⟩
end Go.Proofs.YtbofnlaacjgclaaDoor
namespace Go.Proofs.YtbofnlaacjgclaaDoor
open Go.RowKit

theorem str_pos {l : List Nat} (hl : ∀ c ∈ l, isLetter c) {s : ByteArray} (hs : strOf l = s) : s.size = l.length ∧ ∀ (k d : Nat), l[k]? = some d → ∀ hk : k < s.size, (s[k]'hk).toNat = d :=
  ⟨by rw [← hs, strOf_size], fun k d hd hk => by subst hs; exact strOf_get hl hd hk⟩
set_option maxRecDepth 100000 in
theorem indexAny_one (ls : List Nat) (c : Nat) (w : World) (hl : ∀ c ∈ ls, isLetter c) (hc : isLetter c) :
    Calls Tryd.prog 124 #[.string (strOf ls), .string (strOf [c])] w fun e w' => ∃ z, e = .returned (.int .i64 z) ∧ decide (0 ≤ z) = decide (c ∈ ls) ∧ w = w' := by
  have hc128 : c < 128 := by unfold isLetter at hc; omega
  have H := fun W => idxRune_any (strOf ls) c W hc128
  have hm : decide (0 ≤ Lib.indexByte (strOf ls).data.toList (UInt8.ofNat c)) = decide (c ∈ ls) := by rw [idx_mem, strOf_mem hl hc]
  obtain ⟨t, ht⟩ : ∃ t, strOf [c] = t := ⟨_, rfl⟩
  obtain ⟨hz, hat⟩ := str_pos (by simpa using hc) ht
  have hz1 : t.size = 1 := hz
  have hk0 : 0 < t.size := by omega
  have h0 := hat 0 c rfl hk0
  have htn : (t.toList == []) = false := by
    have := strOf_nil (l := [c]) (by simp)
    rw [ht] at this
    simpa using this
  rw [ht]
  generalize Lib.indexByte (strOf ls).data.toList (UInt8.ofNat c) = z at *
  have HH := hide H
  have HM := hide hm
  clear H hm hat hz ht hc
  generalize strOf ls = s at *
  go_enter Tryd.func124, Tryd.ntmps124
  go_wp2_with (go_at_call 133; refine (HH.out _).mono ?_; rintro e w' ⟨rfl, rfl⟩)
  go_ret
  exact ⟨z, rfl, HM.out, rfl⟩

set_option maxRecDepth 100000 in
theorem contAny_one (ls : List Nat) (c : Nat) (w : World) (hl : ∀ c ∈ ls, isLetter c) (hc : isLetter c) :
    Calls Tryd.prog 109 #[.string (strOf ls), .string (strOf [c])] w fun e w' => e = .returned (.bool (decide (c ∈ ls))) ∧ w = w' := by
  have H := hide (indexAny_one ls c w hl hc)
  generalize strOf ls = s at *
  generalize strOf [c] = t at *
  generalize decide (c ∈ ls) = b at *
  go_enter Tryd.func109, Tryd.ntmps109
  go_wp2_with (go_at_call 124; refine H.out.mono ?_; rintro e w' ⟨z, rfl, hz, rfl⟩; have HZ := hide hz; clear hz)
  go_ret
  exact ⟨ret_bool HZ.out, rfl⟩
def hasP (op : Int) (cs : List Nat) : Bool := (partsN op).any (fun c => decide (c ∈ cs))
set_option maxRecDepth 100000 in
theorem has_one (op : Int) (c : Nat) (w : World) (hT : TabP w) (hop : i64R op) (hc : isLetter c) :
    Calls Tryd.prog 75 #[.int .i64 op, .string (strOf [c])] w fun e w' => e = .returned (.bool (decide (c ∈ partsN op))) ∧ w = w' := by
  have HP := hide (parts_any op w hT hop)
  have H := hide (contAny_one (partsN op) c w (partsN_letter op) hc)
  generalize strOf (partsN op) = s at *
  generalize strOf [c] = t at *
  go_enter Tryd.func75, Tryd.ntmps75
  go_wp2_with (first
    | (go_at_call 110; refine HP.out.mono ?_; rintro e w' ⟨rfl, rfl⟩)
    | (go_at_call 109; refine H.out.mono ?_; rintro e w' ⟨rfl, rfl⟩))
  go_ret
  exact ⟨rfl, rfl⟩
end Go.Proofs.YtbofnlaacjgclaaDoor
namespace Go.Proofs.YtbofnlaacjgclaaDoor
open Go.RowKit

def refB (kinds : List Int) (v : Int) : Bool := inB 0 ((kinds.length : Int) - 1) v && decide (kinds[v.toNat]? = some 1)
def baseB4 (kinds : List Int) (k b : Int) : Bool := if k = 2 then refB kinds b else valB k && b == -1
def varsB4 (f : FunV) : Bool := (decide (f.base.length = f.kinds.length) && decide (f.kinds.length ≤ 48)) && (f.kinds.zip f.base).all (fun kb => baseB4 f.kinds kb.1 kb.2)
end Go.Proofs.YtbofnlaacjgclaaDoor
namespace Go.Proofs.YtbofnlaacjgclaaDoor
open Go.RowKit

def paramsB4 (f : FunV) : Bool := inB 0 (min 4 (f.kinds.length : Int)) f.params && (f.kinds.take f.params.toNat).all valB
end Go.Proofs.YtbofnlaacjgclaaDoor
namespace Go.Proofs.YtbofnlaacjgclaaDoor
open Go.RowKit

def endsB (l : List InsV) : Bool := (l.take (l.length - 1)).all (fun x => !lastB x.op) && (l.drop (l.length - 1)).all (fun x => lastB x.op)
def blockB4 (b : List InsV) : Bool := inB 1 40 (b.length : Int) && endsB b
def blocksB4 (bs : List (List InsV)) : Bool := inB 1 40 (bs.length : Int) && bs.all blockB4
def funB4 (f : FunV) : Bool := varsB4 f && (paramsB4 f && (valB f.result && blocksB4 f.blocks))
end Go.Proofs.YtbofnlaacjgclaaDoor
namespace Go.Proofs.YtbofnlaacjgclaaDoor
open Go.RowKit

/-- What the closures of a scope hold: the function's cells, the program's. -/
def ScopeP (w : World) (B hf hp : Nat) (p : List FunV) (f : FunV) : Prop :=
  ∃ Ak ck As cs A c, w.cell? ⟨hf, 0, none⟩ = some (.slice Ak f.kinds.length ck) ∧ w.cell? ⟨hf, 4, none⟩ = some (.slice As f.blocks.length cs) ∧ w.cell? ⟨hp, 0, none⟩ = some (.slice A p.length c) ∧
    FunsV w (· < B) (.slice A p.length c) p ∧ (hf < w.heap.size ∧ hp < w.heap.size ∧ B ≤ w.heap.size) ∧ f.kinds.length ≤ 9223372036854775807 ∧ f.blocks.length ≤ 9223372036854775807
theorem ScopeP.below {w w1 : World} {B hf hp : Nat} {p : List FunV} {f : FunV} (h : ScopeP w B hf hp p f) (hb : Below w.heap.size w w1) : ScopeP w1 B hf hp p f := by
  obtain ⟨Ak, ck, As, cs, A, c, h1, h2, h3, h4, ⟨h5, h6, h7⟩, h8⟩ := h
  have hs := hb.size
  exact ⟨Ak, ck, As, cs, A, c, (hb.cell (p := ⟨hf, 0, none⟩) h5).trans h1, (hb.cell (p := ⟨hf, 4, none⟩) h5).trans h2, (hb.cell (p := ⟨hp, 0, none⟩) h6).trans h3, h4.keep (up hb h7) (fun _ h => h), ⟨by omega, by omega, by omega⟩, h8⟩
def inVar (f : FunV) (v : Int) : Bool := inB 0 ((f.kinds.length : Int) - 1) v
def inBlk (f : FunV) (v : Int) : Bool := inB 1 ((f.blocks.length : Int) - 1) v
def calleeB (p : List FunV) (g a : Int) : Bool := inB 0 ((p.length : Int) - 1) g && decide ((p[g.toNat]?).map FunV.params = some a)
end Go.Proofs.YtbofnlaacjgclaaDoor
