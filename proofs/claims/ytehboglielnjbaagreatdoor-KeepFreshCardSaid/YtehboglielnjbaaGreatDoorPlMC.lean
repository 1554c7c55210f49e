/- Texts of several names, of which only what the statement needs is kept. -/
import Derived.Test.YtehboglielnjbaaGreatDoorPlMA
import Derived.Test.YtehboglielnjbaaGreatDoorPlMB
import Derived.Laws.DeepNot64
import Derived.Laws.BitsAllLaws
import Derived.Laws.CopyOwn
import Derived.OwnWalk
import Derived.Deep.QuietTactic
import Derived.BigQuiet
import Derived.Deep.RegionHeld3
import Derived.Deep.RegionLaw
import Derived.Deep.AppendLies
import Derived.Deep.DrawnRows
/- The contracts of varint.Get, GetSigned, place, number. No condition. -/
set_option linter.unusedSimpArgs false
set_option linter.unusedVariables false
namespace Go.Proofs.YtehboglielnjbaaGreatDoor
open Go.RowKit
end Go.Proofs.YtehboglielnjbaaGreatDoor
namespace Go.Proofs.YtehboglielnjbaaGreatDoor
open Go.RowKit
/-- The bytes of a number that Put writes: none below 0. -/
def encI (n : Int) : List Int := if n < 0 then [] else enc n.toNat
/-- All bytes of a list: none of the numbers below 0. -/
def encL (zs : List Int) : List Int := zs.flatMap encI
theorem info_i64 : (Tryz.prog.info? 3).map (fun i => (i.zero, i.size, i.bytes)) = some (some (.int .i64 0), 1, 8) := by kernel_rfl
end Go.Proofs.YtehboglielnjbaaGreatDoor
namespace Go.Proofs.YtehboglielnjbaaGreatDoor
open Go.RowKit
set_option maxRecDepth 100000 in
/-- Ints: two slices of numbers hold the same. -/
theorem ints_any (A B : Option Addr) (n m c d : Nat) (xs ys : List Int) (w : World) (Bx By : Nat) (hx : Sl w Bx .i64 A xs) (hy : Sl w By .i64 B ys) (hn : xs.length = n) (hm : ys.length = m) (hmax : n ≤ 9223372036854775807) (hmax2 : m ≤ 9223372036854775807) :
    Calls Tryz.prog 16 #[.slice A n c, .slice B m d] w fun e w' => e = .returned (.bool (decide (xs = ys))) ∧ ∃ q, w' = w.drewN q := by
  have HX := hide hx; have HY := hide hy; have HN := hide hn; have HM := hide hm
  clear hx hy hn hm
  by_cases hnm : n = m
  · subst hnm
    go_enter Tryz.func16, Tryz.ntmps16
    go_wp2
    go_loopw [5] (fun i wr => ∃ k q : Nat, i = .int .i64 k ∧ k ≤ n ∧ xs.take k = ys.take k ∧ wr = w.drewN q) (fun i _ => n - (intOf i).toNat)
    case atStart => exact ⟨0, 0, rfl, Nat.zero_le _, rfl, rfl⟩
    case round =>
      obtain ⟨k, q, rfl, hk, he, rfl⟩ := hrel
      have HE := hide he
      clear he
      by_cases hlt : k < n
      · obtain ⟨b, o, rfl, -, hcx⟩ := HX.out (by have := HN.out; omega)
        obtain ⟨b', o', rfl, -, hcy⟩ := HY.out (by have := HM.out; omega)
        have h1 := hcx k (by have := HN.out; omega)
        have h2 := hcy k (by have := HM.out; omega)
        have hgx : xs[k]? = some (xs.getD k 0) := by
          have := HN.out
          simp [List.getD, show k < xs.length by omega]
        have hgy : ys[k]? = some (ys.getD k 0) := by
          have := HM.out
          simp [List.getD, show k < ys.length by omega]
        obtain ⟨x, hxk⟩ : ∃ x, xs.getD k 0 = x := ⟨_, rfl⟩
        obtain ⟨y, hyk⟩ : ∃ y, ys.getD k 0 = y := ⟨_, rfl⟩
        rw [hxk] at h1 hgx
        rw [hyk] at h2 hgy
        have HGX := hide hgx; have HGY := hide hgy
        clear hcx hcy hgx hgy hxk hyk
        by_cases hxy : x = y
        · subst hxy
          go_wp2
          go_quiet (fail)
          go_wp2
          go_roundw
          case rel => exact ⟨k + 1, _, by go_num, by omega, take_step HE.out HGX.out HGY.out, rfl⟩
          case measure => simp [intOf]; omega
        · have hne := hide (decide_eq_false (show ¬ xs = ys from fun h => hxy (by have h1 := HGX.out; have h2 := HGY.out; rw [h, h2] at h1; exact (Option.some.inj h1).symm)))
          go_wp2
          go_quiet (fail)
          go_wp2
          go_ret
          exact ⟨ret_bool hne.out.symm, _, World.drewN_drewN _ _ _⟩
      · go_wp2
        go_ret
        refine ⟨?_, q, rfl⟩
        have h1 := HN.out; have h2 := HM.out; have h3 := HE.out
        rw [List.take_of_length_le (by omega), List.take_of_length_le (by omega)] at h3
        simp [h3]
  · have hne : xs ≠ ys := fun h => hnm (by have := HN.out; have := HM.out; subst h; omega)
    have hd := hide (decide_eq_false hne)
    clear hne
    go_enter Tryz.func16, Tryz.ntmps16
    go_wp2
    go_ret
    exact ⟨ret_bool hd.out.symm, 0, rfl⟩
end Go.Proofs.YtehboglielnjbaaGreatDoor

/- The contracts of the writer's put and putSigned. Condition: no more than 2^30 bytes. -/
set_option linter.unusedSimpArgs false
set_option linter.unusedVariables false
namespace Go.Proofs.YtehboglielnjbaaGreatDoor
open Go.RowKit
attribute [local go_sem ↓] Go.wp_at_zero Go.wp_at_succ

section
variable {P : Program} (w : World)
end

theorem Ow.row {w : World} {base : Nat} {e : TypeId} {k : IntKind} {v : Value} {zs : List Int} (h : Ow w base e k v zs) : ∀ g, v.ownBlock = some g → base ≤ g ∧ ∃ c fz, w.heap[g]? = some (.cells c e fz) := fun g hg => by
  rcases h.2 with ⟨rfl, _⟩ | ⟨g', cap, cur, rfl, hb, hgg, _⟩
  · simp [Value.ownBlock] at hg
  · simp [Value.ownBlock] at hg
    subst hg
    exact ⟨hb, cur, _, hgg⟩
theorem Ow.apart {w : World} {base g : Nat} {k : IntKind} {v : Value} {zs : List Int} {cs : Array Value} {e T : TypeId} (h : Ow w base e k v zs) (hb : Box w g cs T) (hT : T ≠ e) : v.ownBlock ≠ some g := fun hv => by
  obtain ⟨-, c, fz, hc⟩ := h.row g hv
  rw [Box] at hb
  rw [hb] at hc
  injection hc with hc
  injection hc with _ h2 _
  exact hT h2
end Go.Proofs.YtehboglielnjbaaGreatDoor
namespace Go.Proofs.YtehboglielnjbaaGreatDoor
open Go.RowKit

def encPart (x : InsV) (c : Nat) : List Int := if c = 110 then enc (zz x.n) else if c = 76 then encL [(x.args.length : Int)] ++ encL x.args else encL [fieldOf c x]
def encIns (x : InsV) : List Int := encL [x.op] ++ (partsN x.op).flatMap (encPart x)

theorem IntsV.lit (w : World) (l : List Int) (cs : Array Value) (T : TypeId) (h : cs.toList = l.map (Value.int .i64)) (hr : ∀ z ∈ l, i64R z) (hl : l.length ≤ 100) :
    IntsV (w.alloc (.cells cs T)) (· < (w.alloc (.cells cs T)).heap.size) (.slice (some ⟨w.heap.size, 0, none⟩) l.length l.length) l := by
  refine ⟨_, _, rfl, Nat.le_refl _, by omega, fun _ => ⟨_, _, rfl, by simp, fun j z hj => ⟨?_, hr z (List.mem_of_getElem? hj)⟩⟩⟩
  rw [(Box.new w cs T).cell (0 + j * 1) (v := .int .i64 z) ?_ |>.1]
  rw [← Array.getElem?_toList, h, List.getElem?_map, Nat.zero_add, Nat.mul_one, hj]; rfl
section
variable {w w1 w2 : World} {g base : Nat} {zs ys : List Int}
end
end Go.Proofs.YtehboglielnjbaaGreatDoor
namespace Go.Proofs.YtehboglielnjbaaGreatDoor
open Go.RowKit

def encVar (kb : Int × Int) : List Int := encL [kb.1] ++ (if kb.1 = 2 then encL [kb.2] else [])
def encBlk (b : List InsV) : List Int := encL [(b.length : Int)] ++ b.flatMap encIns
def encFun (f : FunV) : List Int := encL [(f.kinds.length : Int)] ++ (f.kinds.zip f.base).flatMap encVar ++ encL [f.params, f.result, (f.blocks.length : Int)] ++ f.blocks.flatMap encBlk
def encProg (p : List FunV) : List Int := encL [(p.length : Int)] ++ p.flatMap encFun
end Go.Proofs.YtehboglielnjbaaGreatDoor
namespace Go.Proofs.YtehboglielnjbaaGreatDoor
open Go.RowKit

def InsRR (x : InsV) : Prop := InsR x ∧ ∀ z ∈ x.args, i64R z
def FunR (f : FunV) : Prop := i64R f.params ∧ i64R f.result ∧ (∀ z ∈ f.kinds, i64R z) ∧ (∀ z ∈ f.base, i64R z) ∧ ∀ b ∈ f.blocks, ∀ x ∈ b, InsRR x
theorem Vec.each {α : Type} {s : Nat} {P : Nat → Nat → α → Prop} {S : Nat → Prop} {v : Value} {xs : List α} (h : Vec s P S v xs) : ∀ x ∈ xs, ∃ b o, P b o x := fun x hx => by
  obtain ⟨A, c, -, -, -, h3⟩ := h
  obtain ⟨j, hj⟩ := List.getElem?_of_mem hx
  obtain ⟨b, o, -, -, hc⟩ := h3 (by have := (List.getElem?_eq_some_iff.1 hj).1; omega)
  exact ⟨b, _, hc j x hj⟩
theorem IntsV.range {w : World} {S : Nat → Prop} {v : Value} {zs : List Int} (h : IntsV w S v zs) : ∀ z ∈ zs, i64R z := fun z hz => by
  obtain ⟨b, o, hc⟩ := Vec.each h z hz
  exact hc.2
theorem FunsV.range {w : World} {S : Nat → Prop} {v : Value} {p : List FunV} (h : FunsV w S v p) : ∀ f ∈ p, FunR f := fun f hf => by
  obtain ⟨b, o, vk, vb, vs, -, hi⟩ := Vec.each h f hf
  obtain ⟨h1, h2, h3, h4, h5⟩ := hi
  refine ⟨h4, h5, h1.range, h2.range, fun bl hbl x hx => ?_⟩
  obtain ⟨b', o', v', -, hb⟩ := Vec.each h3 bl hbl
  obtain ⟨b2, o2, va, -, hx2⟩ := Vec.each hb x hx
  exact ⟨hx2.2, hx2.1.range⟩

/-- What Encode answers: bytes, and an error's number. -/
def encR (p : List FunV) : List Int × Nat := if cntB p = true then (if p.all funMayB = true then (encProg p, 0) else ([], 1)) else ([], 9)
end Go.Proofs.YtehboglielnjbaaGreatDoor
namespace Go.Proofs.YtehboglielnjbaaGreatDoor
open Go.RowKit

/-- What Encode answers, in memory. -/
def EncA (W : World) (p : List FunV) (e : Ending) (w' : World) : Prop :=
  ∃ A c, e = .returned (.tuple #[.slice A (encR p).1.length c, .int .i64 ((encR p).2 : Int)]) ∧ Sl w' w'.heap.size .u8 A (encR p).1 ∧ (encR p).1.length ≤ c ∧ c ≤ 9223372036854775807 ∧ (encR p).1.length ≤ 2000000 ∧ Below W.heap.size W w'
theorem EncA.no {W w' : World} {p : List FunV} {k : Nat} (h : encR p = ([], k)) (hb : Below W.heap.size W w') : EncA W p (.returned (.tuple #[.slice none 0 0, .int .i64 (k : Int)])) w' :=
  ⟨none, 0, by rw [h]; rfl, by rw [h]; exact Sl.nil _ _ _ _, by rw [h]; exact Nat.le_refl _, by omega, by rw [h]; exact Nat.zero_le _, hb⟩
end Go.Proofs.YtehboglielnjbaaGreatDoor
namespace Go.Proofs.YtehboglielnjbaaGreatDoor
open Go.RowKit

end Go.Proofs.YtehboglielnjbaaGreatDoor
