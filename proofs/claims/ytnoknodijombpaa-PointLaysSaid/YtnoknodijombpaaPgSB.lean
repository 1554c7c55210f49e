/- Texts of several names, of which only what the statement needs is kept. -/
import Derived.Test.YtnoknodijombpaaPgMB
import Derived.Test.YtnoknodijombpaaPgMA
import Derived.Test.YtnoknodijombpaaProg
import Derived.Lib.Bytealg
import Derived.Lib.Walk
import Derived.Deep.Cut
import Derived.Laws.EntriesVeiled
import Derived.Laws.DeepNot64
import Derived.Laws.BitsAllLaws
import Derived.Laws.CopyOwn
import Derived.OwnWalk
import Derived.Deep.QuietTactic
import Derived.BigQuiet
import Derived.Deep.RegionHeld3
import Derived.Deep.RegionLaw
import Derived.Deep.AppendLies
import Derived.Deep.DrawnRows
/- The contracts of shape's within, isValue, Last, and of what strings.ContainsAny calls. No condition but on letters. -/
set_option linter.unusedSimpArgs false
set_option linter.unusedVariables false
namespace Go.Proofs.Ytnoknodijombpaa
open Go.RowKit

def inB (lo hi n : Int) : Bool := decide (lo ≤ n) && decide (n ≤ hi)
def valB (k : Int) : Bool := k == 0 || k == 1
def lastB (op : Int) : Bool := op == 21 || (op == 22 || op == 23)
end Go.Proofs.Ytnoknodijombpaa
namespace Go.Proofs.Ytnoknodijombpaa
open Go.RowKit

def hasP (op : Int) (cs : List Nat) : Bool := (partsN op).any (fun c => decide (c ∈ cs))
end Go.Proofs.Ytnoknodijombpaa
namespace Go.Proofs.Ytnoknodijombpaa
open Go.RowKit

def refB (kinds : List Int) (v : Int) : Bool := inB 0 ((kinds.length : Int) - 1) v && decide (kinds[v.toNat]? = some 1)
def baseB4 (kinds : List Int) (k b : Int) : Bool := if k = 2 then refB kinds b else valB k && b == -1
def varsB4 (f : FunV) : Bool := (decide (f.base.length = f.kinds.length) && decide (f.kinds.length ≤ 48)) && (f.kinds.zip f.base).all (fun kb => baseB4 f.kinds kb.1 kb.2)
end Go.Proofs.Ytnoknodijombpaa
namespace Go.Proofs.Ytnoknodijombpaa
open Go.RowKit

def paramsB4 (f : FunV) : Bool := inB 0 (min 4 (f.kinds.length : Int)) f.params && (f.kinds.take f.params.toNat).all valB
end Go.Proofs.Ytnoknodijombpaa
namespace Go.Proofs.Ytnoknodijombpaa
open Go.RowKit

def endsB (l : List InsV) : Bool := (l.take (l.length - 1)).all (fun x => !lastB x.op) && (l.drop (l.length - 1)).all (fun x => lastB x.op)
def blockB4 (b : List InsV) : Bool := inB 1 40 (b.length : Int) && endsB b
def blocksB4 (bs : List (List InsV)) : Bool := inB 1 40 (bs.length : Int) && bs.all blockB4
def funB4 (f : FunV) : Bool := varsB4 f && (paramsB4 f && (valB f.result && blocksB4 f.blocks))
end Go.Proofs.Ytnoknodijombpaa
namespace Go.Proofs.Ytnoknodijombpaa
open Go.RowKit

/-- What the closures of a scope hold: the function's cells, the program's. -/
def ScopeP (w : World) (B hf hp : Nat) (p : List FunV) (f : FunV) : Prop :=
  ∃ Ak ck As cs A c, w.cell? ⟨hf, 0, none⟩ = some (.slice Ak f.kinds.length ck) ∧ w.cell? ⟨hf, 4, none⟩ = some (.slice As f.blocks.length cs) ∧ w.cell? ⟨hp, 0, none⟩ = some (.slice A p.length c) ∧
    FunsV w (· < B) (.slice A p.length c) p ∧ (hf < w.heap.size ∧ hp < w.heap.size ∧ B ≤ w.heap.size) ∧ f.kinds.length ≤ 9223372036854775807 ∧ f.blocks.length ≤ 9223372036854775807
theorem ScopeP.below {w w1 : World} {B hf hp : Nat} {p : List FunV} {f : FunV} (h : ScopeP w B hf hp p f) (hb : Below w.heap.size w w1) : ScopeP w1 B hf hp p f := by
  obtain ⟨Ak, ck, As, cs, A, c, h1, h2, h3, h4, ⟨h5, h6, h7⟩, h8⟩ := h
  have hs := hb.size
  exact ⟨Ak, ck, As, cs, A, c, (hb.cell (p := ⟨hf, 0, none⟩) h5).trans h1, (hb.cell (p := ⟨hf, 4, none⟩) h5).trans h2, (hb.cell (p := ⟨hp, 0, none⟩) h6).trans h3, h4.keep (up hb h7) (fun _ h => h), ⟨by omega, by omega, by omega⟩, h8⟩
def inVar (f : FunV) (v : Int) : Bool := inB 0 ((f.kinds.length : Int) - 1) v
def inBlk (f : FunV) (v : Int) : Bool := inB 1 ((f.blocks.length : Int) - 1) v
def calleeB (p : List FunV) (g a : Int) : Bool := inB 0 ((p.length : Int) - 1) g && decide ((p[g.toNat]?).map FunV.params = some a)
end Go.Proofs.Ytnoknodijombpaa

/- The contracts of varint.Get, GetSigned, place, number. No condition. -/
set_option linter.unusedSimpArgs false
set_option linter.unusedVariables false
namespace Go.Proofs.Ytnoknodijombpaa
open Go.RowKit
end Go.Proofs.Ytnoknodijombpaa
namespace Go.Proofs.Ytnoknodijombpaa
open Go.RowKit
/-- The bytes of a number that Put writes: none below 0. -/
def encI (n : Int) : List Int := if n < 0 then [] else enc n.toNat
/-- All bytes of a list: none of the numbers below 0. -/
def encL (zs : List Int) : List Int := zs.flatMap encI
theorem info_i64 : (Try.prog.info? 3).map (fun i => (i.zero, i.size, i.bytes)) = some (some (.int .i64 0), 1, 8) := by kernel_rfl
end Go.Proofs.Ytnoknodijombpaa
namespace Go.Proofs.Ytnoknodijombpaa
open Go.RowKit
theorem Ow.empty (w : World) (e : TypeId) (k : IntKind) : Ow (w.alloc (.cells #[] e)) w.heap.size e k (.slice (some ⟨w.heap.size, 0, none⟩) 0 0) [] :=
  ⟨by simp, .inr ⟨w.heap.size, 0, #[], rfl, Nat.le_refl _, heap_alloc_new w _, Nat.le_refl _, by simp [maxLen], by simp, by simp⟩⟩
set_option maxRecDepth 100000 in
/-- Ints: two slices of numbers hold the same. -/
theorem ints_any (A B : Option Addr) (n m c d : Nat) (xs ys : List Int) (w : World) (Bx By : Nat) (hx : Sl w Bx .i64 A xs) (hy : Sl w By .i64 B ys) (hn : xs.length = n) (hm : ys.length = m) (hmax : n ≤ 9223372036854775807) (hmax2 : m ≤ 9223372036854775807) :
    Calls Try.prog 41 #[.slice A n c, .slice B m d] w fun e w' => e = .returned (.bool (decide (xs = ys))) ∧ ∃ q, w' = w.drewN q := by
  have HX := hide hx; have HY := hide hy; have HN := hide hn; have HM := hide hm
  clear hx hy hn hm
  by_cases hnm : n = m
  · subst hnm
    go_enter Try.func41, Try.ntmps41
    go_wp2
    go_loopw [5] (fun i wr => ∃ k q : Nat, i = .int .i64 k ∧ k ≤ n ∧ xs.take k = ys.take k ∧ wr = w.drewN q) (fun i _ => n - (intOf i).toNat)
    case atStart => exact ⟨0, 0, rfl, Nat.zero_le _, rfl, rfl⟩
    case round =>
      obtain ⟨k, q, rfl, hk, he, rfl⟩ := hrel
      have HE := hide he
      clear he
      by_cases hlt : k < n
      · obtain ⟨b, o, rfl, -, hcx⟩ := HX.out (by have := HN.out; omega)
        obtain ⟨b', o', rfl, -, hcy⟩ := HY.out (by have := HM.out; omega)
        have h1 := hcx k (by have := HN.out; omega)
        have h2 := hcy k (by have := HM.out; omega)
        have hgx : xs[k]? = some (xs.getD k 0) := by
          have := HN.out
          simp [List.getD, show k < xs.length by omega]
        have hgy : ys[k]? = some (ys.getD k 0) := by
          have := HM.out
          simp [List.getD, show k < ys.length by omega]
        obtain ⟨x, hxk⟩ : ∃ x, xs.getD k 0 = x := ⟨_, rfl⟩
        obtain ⟨y, hyk⟩ : ∃ y, ys.getD k 0 = y := ⟨_, rfl⟩
        rw [hxk] at h1 hgx
        rw [hyk] at h2 hgy
        have HGX := hide hgx; have HGY := hide hgy
        clear hcx hcy hgx hgy hxk hyk
        by_cases hxy : x = y
        · subst hxy
          go_wp2
          go_quiet (fail)
          go_wp2
          go_roundw
          case rel => exact ⟨k + 1, _, by go_num, by omega, take_step HE.out HGX.out HGY.out, rfl⟩
          case measure => simp [intOf]; omega
        · have hne := hide (decide_eq_false (show ¬ xs = ys from fun h => hxy (by have h1 := HGX.out; have h2 := HGY.out; rw [h, h2] at h1; exact (Option.some.inj h1).symm)))
          go_wp2
          go_quiet (fail)
          go_wp2
          go_ret
          exact ⟨ret_bool hne.out.symm, _, World.drewN_drewN _ _ _⟩
      · go_wp2
        go_ret
        refine ⟨?_, q, rfl⟩
        have h1 := HN.out; have h2 := HM.out; have h3 := HE.out
        rw [List.take_of_length_le (by omega), List.take_of_length_le (by omega)] at h3
        simp [h3]
  · have hne : xs ≠ ys := fun h => hnm (by have := HN.out; have := HM.out; subst h; omega)
    have hd := hide (decide_eq_false hne)
    clear hne
    go_enter Try.func41, Try.ntmps41
    go_wp2
    go_ret
    exact ⟨ret_bool hd.out.symm, 0, rfl⟩
end Go.Proofs.Ytnoknodijombpaa

/- The contracts of the writer's put and putSigned. Condition: no more than 2^30 bytes. -/
set_option linter.unusedSimpArgs false
set_option linter.unusedVariables false
namespace Go.Proofs.Ytnoknodijombpaa
open Go.RowKit
attribute [local go_sem ↓] Go.wp_at_zero Go.wp_at_succ

section
variable {P : Program} (w : World)
end

theorem Ow.row {w : World} {base : Nat} {e : TypeId} {k : IntKind} {v : Value} {zs : List Int} (h : Ow w base e k v zs) : ∀ g, v.ownBlock = some g → base ≤ g ∧ ∃ c fz, w.heap[g]? = some (.cells c e fz) := fun g hg => by
  rcases h.2 with ⟨rfl, _⟩ | ⟨g', cap, cur, rfl, hb, hgg, _⟩
  · simp [Value.ownBlock] at hg
  · simp [Value.ownBlock] at hg
    subst hg
    exact ⟨hb, cur, _, hgg⟩
theorem Ow.apart {w : World} {base g : Nat} {k : IntKind} {v : Value} {zs : List Int} {cs : Array Value} {e T : TypeId} (h : Ow w base e k v zs) (hb : Box w g cs T) (hT : T ≠ e) : v.ownBlock ≠ some g := fun hv => by
  obtain ⟨-, c, fz, hc⟩ := h.row g hv
  rw [Box] at hb
  rw [hb] at hc
  injection hc with hc
  injection hc with _ h2 _
  exact hT h2
end Go.Proofs.Ytnoknodijombpaa
namespace Go.Proofs.Ytnoknodijombpaa
open Go.RowKit

def encPart (x : InsV) (c : Nat) : List Int := if c = 110 then enc (zz x.n) else if c = 76 then encL [(x.args.length : Int)] ++ encL x.args else encL [fieldOf c x]
def encIns (x : InsV) : List Int := encL [x.op] ++ (partsN x.op).flatMap (encPart x)

theorem IntsV.lit (w : World) (l : List Int) (cs : Array Value) (T : TypeId) (h : cs.toList = l.map (Value.int .i64)) (hr : ∀ z ∈ l, i64R z) (hl : l.length ≤ 100) :
    IntsV (w.alloc (.cells cs T)) (· < (w.alloc (.cells cs T)).heap.size) (.slice (some ⟨w.heap.size, 0, none⟩) l.length l.length) l := by
  refine ⟨_, _, rfl, Nat.le_refl _, by omega, fun _ => ⟨_, _, rfl, by simp, fun j z hj => ⟨?_, hr z (List.mem_of_getElem? hj)⟩⟩⟩
  rw [(Box.new w cs T).cell (0 + j * 1) (v := .int .i64 z) ?_ |>.1]
  rw [← Array.getElem?_toList, h, List.getElem?_map, Nat.zero_add, Nat.mul_one, hj]; rfl
section
variable {w w1 w2 : World} {g base : Nat} {zs ys : List Int}
end
end Go.Proofs.Ytnoknodijombpaa
namespace Go.Proofs.Ytnoknodijombpaa
open Go.RowKit

def encVar (kb : Int × Int) : List Int := encL [kb.1] ++ (if kb.1 = 2 then encL [kb.2] else [])
def encBlk (b : List InsV) : List Int := encL [(b.length : Int)] ++ b.flatMap encIns
def encFun (f : FunV) : List Int := encL [(f.kinds.length : Int)] ++ (f.kinds.zip f.base).flatMap encVar ++ encL [f.params, f.result, (f.blocks.length : Int)] ++ f.blocks.flatMap encBlk
def encProg (p : List FunV) : List Int := encL [(p.length : Int)] ++ p.flatMap encFun
end Go.Proofs.Ytnoknodijombpaa
namespace Go.Proofs.Ytnoknodijombpaa
open Go.RowKit

def InsRR (x : InsV) : Prop := InsR x ∧ ∀ z ∈ x.args, i64R z
def FunR (f : FunV) : Prop := i64R f.params ∧ i64R f.result ∧ (∀ z ∈ f.kinds, i64R z) ∧ (∀ z ∈ f.base, i64R z) ∧ ∀ b ∈ f.blocks, ∀ x ∈ b, InsRR x
theorem Vec.each {α : Type} {s : Nat} {P : Nat → Nat → α → Prop} {S : Nat → Prop} {v : Value} {xs : List α} (h : Vec s P S v xs) : ∀ x ∈ xs, ∃ b o, P b o x := fun x hx => by
  obtain ⟨A, c, -, -, -, h3⟩ := h
  obtain ⟨j, hj⟩ := List.getElem?_of_mem hx
  obtain ⟨b, o, -, -, hc⟩ := h3 (by have := (List.getElem?_eq_some_iff.1 hj).1; omega)
  exact ⟨b, _, hc j x hj⟩
theorem IntsV.range {w : World} {S : Nat → Prop} {v : Value} {zs : List Int} (h : IntsV w S v zs) : ∀ z ∈ zs, i64R z := fun z hz => by
  obtain ⟨b, o, hc⟩ := Vec.each h z hz
  exact hc.2
theorem FunsV.range {w : World} {S : Nat → Prop} {v : Value} {p : List FunV} (h : FunsV w S v p) : ∀ f ∈ p, FunR f := fun f hf => by
  obtain ⟨b, o, vk, vb, vs, -, hi⟩ := Vec.each h f hf
  obtain ⟨h1, h2, h3, h4, h5⟩ := hi
  refine ⟨h4, h5, h1.range, h2.range, fun bl hbl x hx => ?_⟩
  obtain ⟨b', o', v', -, hb⟩ := Vec.each h3 bl hbl
  obtain ⟨b2, o2, va, -, hx2⟩ := Vec.each hb x hx
  exact ⟨hx2.2, hx2.1.range⟩

/-- What Encode answers: bytes, and an error's number. -/
def encR (p : List FunV) : List Int × Nat := if cntB p = true then (if p.all funMayB = true then (encProg p, 0) else ([], 1)) else ([], 9)
end Go.Proofs.Ytnoknodijombpaa
namespace Go.Proofs.Ytnoknodijombpaa
open Go.RowKit

/-- What Encode answers, in memory. -/
def EncA (W : World) (p : List FunV) (e : Ending) (w' : World) : Prop :=
  ∃ A c, e = .returned (.tuple #[.slice A (encR p).1.length c, .int .i64 ((encR p).2 : Int)]) ∧ Sl w' w'.heap.size .u8 A (encR p).1 ∧ (encR p).1.length ≤ c ∧ c ≤ 9223372036854775807 ∧ (encR p).1.length ≤ 2000000 ∧ Below W.heap.size W w'
theorem EncA.no {W w' : World} {p : List FunV} {k : Nat} (h : encR p = ([], k)) (hb : Below W.heap.size W w') : EncA W p (.returned (.tuple #[.slice none 0 0, .int .i64 (k : Int)])) w' :=
  ⟨none, 0, by rw [h]; rfl, by rw [h]; exact Sl.nil _ _ _ _, by rw [h]; exact Nat.le_refl _, by omega, by rw [h]; exact Nat.zero_le _, hb⟩
end Go.Proofs.Ytnoknodijombpaa
namespace Go.Proofs.Ytnoknodijombpaa
open Go.RowKit

end Go.Proofs.Ytnoknodijombpaa

/- The contracts of shape's Sets, Uses, Next, onlyParts. Condition: the table of parts reads as listed. -/
set_option linter.unusedSimpArgs false
set_option linter.unusedVariables false
namespace Go.Proofs.Ytnoknodijombpaa
open Go.RowKit

def hasB4 (op : Int) (c : Nat) : Bool := decide (c ∈ partsN op)
def nextL (x : InsV) : List Int := if x.op = 21 ∨ (x.op = 22 ∧ x.n = x.m) then [x.n] else if x.op = 22 then [min x.n x.m, max x.n x.m] else []
def usesL (x : InsV) : List Int := (if hasB4 x.op 65 = true then [x.a] else []) ++ (if hasB4 x.op 66 = true then [x.b] else []) ++ (if hasB4 x.op 76 = true then x.args else [])
end Go.Proofs.Ytnoknodijombpaa
namespace Go.Proofs.Ytnoknodijombpaa
open Go.RowKit

def checksL (x : InsV) : List (Bool × Bool × ByteArray) := [(x.d != 0, hasB4 x.op 68, ⟨#[68]⟩), (x.a != 0, hasB4 x.op 65, ⟨#[65]⟩), (x.b != 0, hasB4 x.op 66, ⟨#[66]⟩), (x.n != 0, hasP x.op [78, 110], ⟨#[78, 110]⟩), (x.m != 0, hasB4 x.op 77, ⟨#[77]⟩), (decide (0 < x.args.length), hasB4 x.op 76, ⟨#[76]⟩)]
def onlyB4 (x : InsV) : Bool := (checksL x).all (fun t => !t.1 || t.2.1)
end Go.Proofs.Ytnoknodijombpaa
namespace Go.Proofs.Ytnoknodijombpaa
open Go.RowKit

theorem Ow.intsV {w : World} {base : Nat} {v : Value} {zs : List Int} (h : Ow w base 3 .i64 v zs) (hr : ∀ z ∈ zs, i64R z) : IntsV w (· < w.heap.size) v zs := by
  obtain ⟨A, c, e, h1, h2, h3⟩ := h.sl
  refine ⟨A, c, e, h1, by simp only [maxLen] at h2; omega, fun hp => ?_⟩
  obtain ⟨b, o, e2, hb, hc⟩ := h3 hp
  refine ⟨b, o, e2, hb, fun j x hj => ⟨?_, hr x (List.mem_of_getElem? hj)⟩⟩
  have := hc j (List.getElem?_eq_some_iff.1 hj).1
  rw [Nat.mul_one, this]
  simp [List.getD, hj]
theorem SBoxR.of {w : World} {h : Nat} {o d a b n m : Int} {v : Value} {T : TypeId} (hb : Box w h #[.int .i64 o, .int .i64 d, .int .i64 a, .int .i64 b, .int .i64 n, .int .i64 m, v] T) :
    w.cell? ⟨h, 0, none⟩ = some (.int .i64 o) ∧ w.cell? ⟨h, 1, none⟩ = some (.int .i64 d) ∧ w.cell? ⟨h, 2, none⟩ = some (.int .i64 a) ∧ w.cell? ⟨h, 3, none⟩ = some (.int .i64 b) ∧ w.cell? ⟨h, 4, none⟩ = some (.int .i64 n) ∧ w.cell? ⟨h, 5, none⟩ = some (.int .i64 m) ∧ w.cell? ⟨h, 6, none⟩ = some v :=
  ⟨(hb.cell 0 (v := .int .i64 o) rfl).1, (hb.cell 1 (v := .int .i64 d) rfl).1, (hb.cell 2 (v := .int .i64 a) rfl).1, (hb.cell 3 (v := .int .i64 b) rfl).1, (hb.cell 4 (v := .int .i64 n) rfl).1, (hb.cell 5 (v := .int .i64 m) rfl).1, (hb.cell 6 (v := v) rfl).1⟩
theorem usesL_R {x : InsV} (h : InsR x) (ha : ∀ z ∈ x.args, i64R z) : ∀ z ∈ usesL x, i64R z := by
  obtain ⟨-, -, h1, h2, -, -⟩ := h
  intro z hz
  unfold usesL at hz
  rw [List.mem_append, List.mem_append] at hz
  rcases hz with (hz | hz) | hz
  · split at hz <;> simp at hz; rw [hz]; exact h1
  · split at hz <;> simp at hz; rw [hz]; exact h2
  · split at hz
    · exact ha z hz
    · simp at hz
def varsInB (f : FunV) (x : InsV) : Bool := (!hasB4 x.op 68 || inVar f x.d) && (usesL x).all (inVar f)
end Go.Proofs.Ytnoknodijombpaa
namespace Go.Proofs.Ytnoknodijombpaa
open Go.RowKit

def numsB (p : List FunV) (f : FunV) (x : InsV) : Bool :=
  if x.op = 1 then inB (-2147483648) 2147483648 x.n else if x.op = 16 then inB (-8) 8 x.n else if x.op = 10 then inB 0 8 x.n && inB 0 8 x.m
  else if x.op = 11 ∨ x.op = 12 ∨ x.op = 13 ∨ x.op = 14 ∨ x.op = 15 then inB 0 7 x.n else if x.op = 19 then calleeB p x.n x.args.length else if x.op = 21 then inBlk f x.n else if x.op = 22 then inBlk f x.n && inBlk f x.m else true
theorem SScp.of {w : World} {h : Nat} {v1 v2 v3 : Value} {T : TypeId} (hb : Box w h #[v1, v2, v3] T) : w.cell? ⟨h, 0, none⟩ = some v1 ∧ w.cell? ⟨h, 1, none⟩ = some v2 ∧ w.cell? ⟨h, 2, none⟩ = some v3 :=
  ⟨(hb.cell 0 (v := v1) rfl).1, (hb.cell 1 (v := v2) rfl).1, (hb.cell 2 (v := v3) rfl).1⟩
def mayB4 (p : List FunV) (f : FunV) (x : InsV) : Bool := !(partsN x.op).isEmpty && (onlyB4 x && (varsInB f x && numsB p f x))
end Go.Proofs.Ytnoknodijombpaa
namespace Go.Proofs.Ytnoknodijombpaa
open Go.RowKit

def argsFew (bs : List (List InsV)) : Prop := ∀ b ∈ bs, ∀ x ∈ b, x.args.length ≤ 1099511627000
end Go.Proofs.Ytnoknodijombpaa
namespace Go.Proofs.Ytnoknodijombpaa
open Go.RowKit

def beginB (f : FunV) : Bool := f.params == 0 && f.result == 0
def funOkB (p : List FunV) (f : FunV) : Bool := funB4 f && f.blocks.all (fun b => b.all (mayB4 p f))
def beginOk (p : List FunV) : Bool := match p[0]? with
  | some f => beginB f
  | none => false
def progB4 (p : List FunV) : Bool := inB 1 8 (p.length : Int) && (beginOk p && p.all (funOkB p))
def progFew (p : List FunV) : Prop := ∀ f ∈ p, argsFew f.blocks
def chkN4 (p : List FunV) : Nat := if progB4 p = true then 0 else 5
end Go.Proofs.Ytnoknodijombpaa
