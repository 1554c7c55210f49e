/- Texts of several names, of which only what the statement needs is kept. -/
import Derived.Test.YteoopilmdlhkhaaDoorPaMB
import Derived.Test.YteoopilmdlhkhaaDoorPaMA
import Derived.Test.YteoopilmdlhkhaaDoorProg
import Derived.Lib.Bytealg
import Derived.Lib.Walk
import Derived.Deep.Cut
import Derived.Laws.EntriesVeiled
import Derived.Laws.DeepNot64
import Derived.Laws.BitsAllLaws
import Derived.Laws.CopyOwn
import Derived.OwnWalk
import Derived.Deep.QuietTactic
import Derived.BigQuiet
import Derived.Deep.RegionHeld3
import Derived.Deep.RegionLaw
import Derived.Deep.AppendLies
import Derived.Deep.DrawnRows
/- The contracts of shape's within, isValue, Last, and of what strings.ContainsAny calls. No condition but on letters. -/
set_option linter.unusedSimpArgs false
set_option linter.unusedVariables false
namespace Go.Proofs.YteoopilmdlhkhaaDoor
open Go.RowKit

def inB (lo hi n : Int) : Bool := decide (lo ≤ n) && decide (n ≤ hi)
set_option maxHeartbeats 1000000 in
set_option maxRecDepth 100000 in
theorem slIdx_any (s : ByteArray) (c : Int) (w : World) :
    Calls Tryd.prog 98 #[.string s, .int .u8 c] w fun e w' => e = .returned (.int .i64 (Lib.indexByte s.data.toList c.toNat.toUInt8)) ∧ w = w' := by
  go_enter Tryd.func98, Tryd.ntmps98
  go_wp2
  rw [run_callFunc_extern Tryd.func99 (by kernel_rfl) (by kernel_rfl) (by kernel_rfl) (e := Extern.BytealgIndexByte.indexByte) (by kernel_rfl), Lib.run_indexByteString]
  simp only [Result.andThen]
  rw [Oper.upon_value]
  go_wp2
  go_ret
  exact ⟨rfl, rfl⟩
theorem strIdx_any (s : ByteArray) (c : Int) (w : World) :
    Calls Tryd.prog 94 #[.string s, .int .u8 c] w fun e w' => e = .returned (.int .i64 (Lib.indexByte s.data.toList c.toNat.toUInt8)) ∧ w = w' := by
  go_enter Tryd.func94, Tryd.ntmps94
  go_wp2_with (go_at_call 98; refine (slIdx_any _ _ _).mono ?_; rintro e w' ⟨rfl, rfl⟩)
  go_ret
  exact ⟨rfl, rfl⟩
set_option maxRecDepth 100000 in
theorem idxRune_any (s : ByteArray) (c : Nat) (w : World) (hc : c < 128) :
    Calls Tryd.prog 88 #[.string s, .int .i32 (c : Int)] w fun e w' => e = .returned (.int .i64 (Lib.indexByte s.data.toList (UInt8.ofNat c))) ∧ w = w' := by
  have H := fun W => strIdx_any s (c : Int) W
  rw [show (c : Int).toNat.toUInt8 = UInt8.ofNat c from rfl] at H
  have HH := hide H
  clear H
  go_enter Tryd.func88, Tryd.ntmps88
  go_wp2_with (go_at_call 94; refine (HH.out _).mono ?_; rintro e w' ⟨rfl, rfl⟩)
  go_ret
  exact ⟨rfl, rfl⟩
theorem idx_mem (l : List UInt8) (c : UInt8) : decide (0 ≤ Lib.indexByte l c) = decide (c ∈ l) := by
  induction l with
  | nil => simp [Lib.indexByte]
  | cons b l ih =>
    unfold Lib.indexByte
    by_cases hb : b = c
    · subst hb; simp
    · have hbe : (b == c) = false := by simpa using hb
      rw [hbe]
      have hge := Lib.indexByte_ge l c
      by_cases h1 : Lib.indexByte l c = -1
      · rw [h1] at ih ⊢
        simp at ih ⊢
        exact ⟨fun h => hb h.symm, ih⟩
      · have h1b : (Lib.indexByte l c == -1) = false := by simpa using h1
        rw [h1b]
        simp only [Bool.false_eq_true, if_false]
        have : (0 ≤ Lib.indexByte l c) := by omega
        rw [decide_eq_true this] at ih
        have hm : c ∈ l := by simpa using ih.symm
        rw [decide_eq_true (show 0 ≤ Lib.indexByte l c + 1 by omega), decide_eq_true (show c ∈ b :: l by simp [hm])]
theorem strOf_mem {ls : List Nat} (hl : ∀ c ∈ ls, isLetter c) {c : Nat} (hc : isLetter c) : decide (UInt8.ofNat c ∈ (strOf ls).data.toList) = decide (c ∈ ls) := by
  have e : (strOf ls).data.toList = ls.map UInt8.ofNat := by simp [strOf]
  rw [e, decide_eq_decide, List.mem_map]
  constructor
  · rintro ⟨d, hd, h⟩
    have h1 := hl d hd
    have : d = c := by
      unfold isLetter at h1 hc
      have := congrArg UInt8.toNat h
      simp [UInt8.toNat_ofNat'] at this
      omega
    exact this ▸ hd
  · intro h; exact ⟨c, h, rfl⟩
end Go.Proofs.YteoopilmdlhkhaaDoor
namespace Go.Proofs.YteoopilmdlhkhaaDoor
open Go.RowKit

theorem str_pos {l : List Nat} (hl : ∀ c ∈ l, isLetter c) {s : ByteArray} (hs : strOf l = s) : s.size = l.length ∧ ∀ (k d : Nat), l[k]? = some d → ∀ hk : k < s.size, (s[k]'hk).toNat = d :=
  ⟨by rw [← hs, strOf_size], fun k d hd hk => by subst hs; exact strOf_get hl hd hk⟩
set_option maxRecDepth 100000 in
theorem indexAny_one (ls : List Nat) (c : Nat) (w : World) (hl : ∀ c ∈ ls, isLetter c) (hc : isLetter c) :
    Calls Tryd.prog 81 #[.string (strOf ls), .string (strOf [c])] w fun e w' => ∃ z, e = .returned (.int .i64 z) ∧ decide (0 ≤ z) = decide (c ∈ ls) ∧ w = w' := by
  have hc128 : c < 128 := by unfold isLetter at hc; omega
  have H := fun W => idxRune_any (strOf ls) c W hc128
  have hm : decide (0 ≤ Lib.indexByte (strOf ls).data.toList (UInt8.ofNat c)) = decide (c ∈ ls) := by rw [idx_mem, strOf_mem hl hc]
  obtain ⟨t, ht⟩ : ∃ t, strOf [c] = t := ⟨_, rfl⟩
  obtain ⟨hz, hat⟩ := str_pos (by simpa using hc) ht
  have hz1 : t.size = 1 := hz
  have hk0 : 0 < t.size := by omega
  have h0 := hat 0 c rfl hk0
  have htn : (t.toList == []) = false := by
    have := strOf_nil (l := [c]) (by simp)
    rw [ht] at this
    simpa using this
  rw [ht]
  generalize Lib.indexByte (strOf ls).data.toList (UInt8.ofNat c) = z at *
  have HH := hide H
  have HM := hide hm
  clear H hm hat hz ht hc
  generalize strOf ls = s at *
  go_enter Tryd.func81, Tryd.ntmps81
  go_wp2_with (go_at_call 88; refine (HH.out _).mono ?_; rintro e w' ⟨rfl, rfl⟩)
  go_ret
  exact ⟨z, rfl, HM.out, rfl⟩

set_option maxRecDepth 100000 in
theorem contAny_one (ls : List Nat) (c : Nat) (w : World) (hl : ∀ c ∈ ls, isLetter c) (hc : isLetter c) :
    Calls Tryd.prog 71 #[.string (strOf ls), .string (strOf [c])] w fun e w' => e = .returned (.bool (decide (c ∈ ls))) ∧ w = w' := by
  have H := hide (indexAny_one ls c w hl hc)
  generalize strOf ls = s at *
  generalize strOf [c] = t at *
  generalize decide (c ∈ ls) = b at *
  go_enter Tryd.func71, Tryd.ntmps71
  go_wp2_with (go_at_call 81; refine H.out.mono ?_; rintro e w' ⟨z, rfl, hz, rfl⟩; have HZ := hide hz; clear hz)
  go_ret
  exact ⟨ret_bool HZ.out, rfl⟩
set_option maxRecDepth 100000 in
theorem has_one (op : Int) (c : Nat) (w : World) (hT : TabP w) (hop : i64R op) (hc : isLetter c) :
    Calls Tryd.prog 55 #[.int .i64 op, .string (strOf [c])] w fun e w' => e = .returned (.bool (decide (c ∈ partsN op))) ∧ w = w' := by
  have HP := hide (parts_any op w hT hop)
  have H := hide (contAny_one (partsN op) c w (partsN_letter op) hc)
  generalize strOf (partsN op) = s at *
  generalize strOf [c] = t at *
  go_enter Tryd.func55, Tryd.ntmps55
  go_wp2_with (first
    | (go_at_call 72; refine HP.out.mono ?_; rintro e w' ⟨rfl, rfl⟩)
    | (go_at_call 71; refine H.out.mono ?_; rintro e w' ⟨rfl, rfl⟩))
  go_ret
  exact ⟨rfl, rfl⟩
end Go.Proofs.YteoopilmdlhkhaaDoor
namespace Go.Proofs.YteoopilmdlhkhaaDoor
open Go.RowKit

end Go.Proofs.YteoopilmdlhkhaaDoor
namespace Go.Proofs.YteoopilmdlhkhaaDoor
open Go.RowKit

end Go.Proofs.YteoopilmdlhkhaaDoor
namespace Go.Proofs.YteoopilmdlhkhaaDoor
open Go.RowKit

end Go.Proofs.YteoopilmdlhkhaaDoor
namespace Go.Proofs.YteoopilmdlhkhaaDoor
open Go.RowKit

/-- What the closures of a scope hold: the function's cells, the program's. -/
def ScopeP (w : World) (B hf hp : Nat) (p : List FunV) (f : FunV) : Prop :=
  ∃ Ak ck As cs A c, w.cell? ⟨hf, 0, none⟩ = some (.slice Ak f.kinds.length ck) ∧ w.cell? ⟨hf, 4, none⟩ = some (.slice As f.blocks.length cs) ∧ w.cell? ⟨hp, 0, none⟩ = some (.slice A p.length c) ∧
    FunsV w (· < B) (.slice A p.length c) p ∧ (hf < w.heap.size ∧ hp < w.heap.size ∧ B ≤ w.heap.size) ∧ f.kinds.length ≤ 9223372036854775807 ∧ f.blocks.length ≤ 9223372036854775807
theorem ScopeP.below {w w1 : World} {B hf hp : Nat} {p : List FunV} {f : FunV} (h : ScopeP w B hf hp p f) (hb : Below w.heap.size w w1) : ScopeP w1 B hf hp p f := by
  obtain ⟨Ak, ck, As, cs, A, c, h1, h2, h3, h4, ⟨h5, h6, h7⟩, h8⟩ := h
  have hs := hb.size
  exact ⟨Ak, ck, As, cs, A, c, (hb.cell (p := ⟨hf, 0, none⟩) h5).trans h1, (hb.cell (p := ⟨hf, 4, none⟩) h5).trans h2, (hb.cell (p := ⟨hp, 0, none⟩) h6).trans h3, h4.keep (up hb h7) (fun _ h => h), ⟨by omega, by omega, by omega⟩, h8⟩
end Go.Proofs.YteoopilmdlhkhaaDoor

/- The contracts of varint.Get, GetSigned, place, number. No condition. -/
set_option linter.unusedSimpArgs false
set_option linter.unusedVariables false
namespace Go.Proofs.YteoopilmdlhkhaaDoor
open Go.RowKit
end Go.Proofs.YteoopilmdlhkhaaDoor
namespace Go.Proofs.YteoopilmdlhkhaaDoor
open Go.RowKit
/-- The bytes of a number that Put writes: none below 0. -/
def encI (n : Int) : List Int := if n < 0 then [] else enc n.toNat
/-- All bytes of a list: none of the numbers below 0. -/
def encL (zs : List Int) : List Int := zs.flatMap encI
theorem info_i64 : (Tryd.prog.info? 3).map (fun i => (i.zero, i.size, i.bytes)) = some (some (.int .i64 0), 1, 8) := by kernel_rfl
end Go.Proofs.YteoopilmdlhkhaaDoor
namespace Go.Proofs.YteoopilmdlhkhaaDoor
open Go.RowKit
theorem Ow.empty (w : World) (e : TypeId) (k : IntKind) : Ow (w.alloc (.cells #[] e)) w.heap.size e k (.slice (some ⟨w.heap.size, 0, none⟩) 0 0) [] :=
  ⟨by simp, .inr ⟨w.heap.size, 0, #[], rfl, Nat.le_refl _, heap_alloc_new w _, Nat.le_refl _, by simp [maxLen], by simp, by simp⟩⟩
end Go.Proofs.YteoopilmdlhkhaaDoor

/- The contracts of the writer's put and putSigned. Condition: no more than 2^30 bytes. -/
set_option linter.unusedSimpArgs false
set_option linter.unusedVariables false
namespace Go.Proofs.YteoopilmdlhkhaaDoor
open Go.RowKit
attribute [local go_sem ↓] Go.wp_at_zero Go.wp_at_succ

section
variable {P : Program} (w : World)
end

theorem Ow.row {w : World} {base : Nat} {e : TypeId} {k : IntKind} {v : Value} {zs : List Int} (h : Ow w base e k v zs) : ∀ g, v.ownBlock = some g → base ≤ g ∧ ∃ c fz, w.heap[g]? = some (.cells c e fz) := fun g hg => by
  rcases h.2 with ⟨rfl, _⟩ | ⟨g', cap, cur, rfl, hb, hgg, _⟩
  · simp [Value.ownBlock] at hg
  · simp [Value.ownBlock] at hg
    subst hg
    exact ⟨hb, cur, _, hgg⟩
theorem Ow.apart {w : World} {base g : Nat} {k : IntKind} {v : Value} {zs : List Int} {cs : Array Value} {e T : TypeId} (h : Ow w base e k v zs) (hb : Box w g cs T) (hT : T ≠ e) : v.ownBlock ≠ some g := fun hv => by
  obtain ⟨-, c, fz, hc⟩ := h.row g hv
  rw [Box] at hb
  rw [hb] at hc
  injection hc with hc
  injection hc with _ h2 _
  exact hT h2
end Go.Proofs.YteoopilmdlhkhaaDoor
namespace Go.Proofs.YteoopilmdlhkhaaDoor
open Go.RowKit

def encPart (x : InsV) (c : Nat) : List Int := if c = 110 then enc (zz x.n) else if c = 76 then encL [(x.args.length : Int)] ++ encL x.args else encL [fieldOf c x]
def encIns (x : InsV) : List Int := encL [x.op] ++ (partsN x.op).flatMap (encPart x)

theorem IntsV.lit (w : World) (l : List Int) (cs : Array Value) (T : TypeId) (h : cs.toList = l.map (Value.int .i64)) (hr : ∀ z ∈ l, i64R z) (hl : l.length ≤ 100) :
    IntsV (w.alloc (.cells cs T)) (· < (w.alloc (.cells cs T)).heap.size) (.slice (some ⟨w.heap.size, 0, none⟩) l.length l.length) l := by
  refine ⟨_, _, rfl, Nat.le_refl _, by omega, fun _ => ⟨_, _, rfl, by simp, fun j z hj => ⟨?_, hr z (List.mem_of_getElem? hj)⟩⟩⟩
  rw [(Box.new w cs T).cell (0 + j * 1) (v := .int .i64 z) ?_ |>.1]
  rw [← Array.getElem?_toList, h, List.getElem?_map, Nat.zero_add, Nat.mul_one, hj]; rfl
section
variable {w w1 w2 : World} {g base : Nat} {zs ys : List Int}
end
end Go.Proofs.YteoopilmdlhkhaaDoor
namespace Go.Proofs.YteoopilmdlhkhaaDoor
open Go.RowKit

def encVar (kb : Int × Int) : List Int := encL [kb.1] ++ (if kb.1 = 2 then encL [kb.2] else [])
def encBlk (b : List InsV) : List Int := encL [(b.length : Int)] ++ b.flatMap encIns
def encFun (f : FunV) : List Int := encL [(f.kinds.length : Int)] ++ (f.kinds.zip f.base).flatMap encVar ++ encL [f.params, f.result, (f.blocks.length : Int)] ++ f.blocks.flatMap encBlk
def encProg (p : List FunV) : List Int := encL [(p.length : Int)] ++ p.flatMap encFun
end Go.Proofs.YteoopilmdlhkhaaDoor
namespace Go.Proofs.YteoopilmdlhkhaaDoor
open Go.RowKit

def InsRR (x : InsV) : Prop := InsR x ∧ ∀ z ∈ x.args, i64R z
def FunR (f : FunV) : Prop := i64R f.params ∧ i64R f.result ∧ (∀ z ∈ f.kinds, i64R z) ∧ (∀ z ∈ f.base, i64R z) ∧ ∀ b ∈ f.blocks, ∀ x ∈ b, InsRR x
theorem Vec.each {α : Type} {s : Nat} {P : Nat → Nat → α → Prop} {S : Nat → Prop} {v : Value} {xs : List α} (h : Vec s P S v xs) : ∀ x ∈ xs, ∃ b o, P b o x := fun x hx => by
  obtain ⟨A, c, -, -, -, h3⟩ := h
  obtain ⟨j, hj⟩ := List.getElem?_of_mem hx
  obtain ⟨b, o, -, -, hc⟩ := h3 (by have := (List.getElem?_eq_some_iff.1 hj).1; omega)
  exact ⟨b, _, hc j x hj⟩
theorem IntsV.range {w : World} {S : Nat → Prop} {v : Value} {zs : List Int} (h : IntsV w S v zs) : ∀ z ∈ zs, i64R z := fun z hz => by
  obtain ⟨b, o, hc⟩ := Vec.each h z hz
  exact hc.2
theorem FunsV.range {w : World} {S : Nat → Prop} {v : Value} {p : List FunV} (h : FunsV w S v p) : ∀ f ∈ p, FunR f := fun f hf => by
  obtain ⟨b, o, vk, vb, vs, -, hi⟩ := Vec.each h f hf
  obtain ⟨h1, h2, h3, h4, h5⟩ := hi
  refine ⟨h4, h5, h1.range, h2.range, fun bl hbl x hx => ?_⟩
  obtain ⟨b', o', v', -, hb⟩ := Vec.each h3 bl hbl
  obtain ⟨b2, o2, va, -, hx2⟩ := Vec.each hb x hx
  exact ⟨hx2.2, hx2.1.range⟩

/-- What Encode answers: bytes, and an error's number. -/
def encR (p : List FunV) : List Int × Nat := if cntB p = true then (if p.all funMayB = true then (encProg p, 0) else ([], 1)) else ([], 9)
end Go.Proofs.YteoopilmdlhkhaaDoor
namespace Go.Proofs.YteoopilmdlhkhaaDoor
open Go.RowKit

/-- What Encode answers, in memory. -/
def EncA (W : World) (p : List FunV) (e : Ending) (w' : World) : Prop :=
  ∃ A c, e = .returned (.tuple #[.slice A (encR p).1.length c, .int .i64 ((encR p).2 : Int)]) ∧ Sl w' w'.heap.size .u8 A (encR p).1 ∧ (encR p).1.length ≤ c ∧ c ≤ 9223372036854775807 ∧ (encR p).1.length ≤ 2000000 ∧ Below W.heap.size W w'
theorem EncA.no {W w' : World} {p : List FunV} {k : Nat} (h : encR p = ([], k)) (hb : Below W.heap.size W w') : EncA W p (.returned (.tuple #[.slice none 0 0, .int .i64 (k : Int)])) w' :=
  ⟨none, 0, by rw [h]; rfl, by rw [h]; exact Sl.nil _ _ _ _, by rw [h]; exact Nat.le_refl _, by omega, by rw [h]; exact Nat.zero_le _, hb⟩
end Go.Proofs.YteoopilmdlhkhaaDoor
namespace Go.Proofs.YteoopilmdlhkhaaDoor
open Go.RowKit

end Go.Proofs.YteoopilmdlhkhaaDoor
