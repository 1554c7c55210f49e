/- The contracts of the writer's put and putSigned. Condition: no more than 2^30 bytes. -/
import Derived.Test.YtckpaikppgjfnaaGreatDoorMB
import Derived.Test.YtckpaikppgjfnaaGreatDoorMV
import Derived.Deep.RegionHeld3
import Derived.Deep.RegionLaw
import Derived.Deep.AppendLies
import Derived.Deep.DrawnRows
set_option linter.unusedSimpArgs false
set_option linter.unusedVariables false
namespace Go.Proofs.YtckpaikppgjfnaaGreatDoor
open Go.RowKit
attribute [local go_sem ↓] Go.wp_at_zero Go.wp_at_succ

section
variable {P : Program} (w : World)
/-- append(v, x..) at a step of a region that draws its order: v the call's own, x a slice that reads as 'news', nil or not. -/
theorem step_append_sl {ops : Array Oper} {o : Oper} {a : Act} {K : Act → World → Prop} {Q : Exit → Act → World → Prop} {E : Prop} (hgd : o.guard = none) (s x : Operand) (t : TypeId)
    (ho : o.op = .call { callee := .builtin .append, args := #[s, x], argTypes := #[t, t] })
    (base : Nat) (e : TypeId) (k : IntKind) (i : TypeInfo) (z : Value) (bytes : Nat) (ht : P.underlying t = some (.slice e)) (hi : P.info? e = some i) (hz : i.zero = some z)
    (hsize : i.size = 1) (hby : i.bytes = bytes) (hzs : z.cells.size = 1) (hb8 : bytes ≤ 8)
    (v : Value) (zs : List Int) (hs : a.eval s = v) (hown : Ow w base e k v zs)
    (B : Nat) (A : Option Addr) (m c : Nat) (news : List Int) (hx : a.eval x = .slice A m c) (hm : news.length = m) (hr : Sl w B k A news)
    (hroom : zs.length + m ≤ 1099511627776) (hbase : base ≤ w.heap.size)
    (h : ∀ v' w', Ow w' base e k v' (zs ++ news) → w.grownBy w' v.ownBlock → K (a.put o.dst v') w') :
    if Region.wanted o (yielded ops a.tmps) = true then Oper.wp P o a w K Q else E := by
  subst hm
  have hw : Region.wanted o (yielded ops a.tmps) = true := by simp [Region.wanted, hgd]
  rw [if_pos hw]
  have key : ∃ v' w', (Builtin.append_ #[t, t] o.type #[v, .slice A news.length c]).run P w = .ok v' w' ∧ Ow w' base e k v' (zs ++ news) ∧ w.grownBy w' v.ownBlock := by
    by_cases h0 : news = []
    · subst h0
      refine ⟨v, w, ?_, by simpa using hown, World.grownBy.refl _ _⟩
      rcases hown.2 with ⟨rfl, _⟩ | ⟨g, cap, cur, rfl, _, _, hnc, _⟩
      · cases A <;> simp [Builtin.append_, run_underlying ht, sizeOf, typeInfo, hi, Builtin.lenOf, Builtin.firstCells, loadCells, loadCellsFrom]
      · cases A <;> simp [Builtin.append_, run_underlying ht, sizeOf, typeInfo, hi, Builtin.lenOf, Builtin.firstCells, hnc, storeCells, loadCells, loadCellsFrom]
        all_goals simp [List.length_map] at hnc
        all_goals first | omega | (simp [storeCells])
    · obtain ⟨b, off, rfl, _, hc⟩ := hr (List.length_pos_iff.2 h0)
      obtain ⟨v', w', hrun, h2, h3, _⟩ := run_append_own (P := P) w base t o.type e i z 1 bytes ht hi hz hsize hby hzs (by omega) v zs.length (zs.map (Value.int k)) hown ⟨b, off, none⟩ news.length c (news.map (Value.int k)) (by simp)
        (fun j u hu => by
          have hj : j < news.length := by have := (List.getElem?_eq_some_iff.1 hu).1; simpa using this
          rw [Addr.add_lit, hc j hj]
          rw [← hu]
          simp [List.getD, hj]) (ints_one k news) (by simp only [maxLen]; omega)
        (by have : (zs.length + news.length) * bytes ≤ 1099511627776 * 8 := Nat.mul_le_mul hroom hb8; omega) hbase
      exact ⟨v', w', hrun, by unfold Ow; simpa using h2, h3⟩
  obtain ⟨v', w', hrun, h2, h3⟩ := key
  unfold Oper.wp execOp
  simp only [ho, resolve, invoke, builtin, Sem.run_bind, Sem.run_pure, Result.andThen_ok, List.map_toArray, List.map_cons, List.map_nil, hs, hx, hrun]
  exact h v' w' h2 h3
end

theorem Ow.row {w : World} {base : Nat} {e : TypeId} {k : IntKind} {v : Value} {zs : List Int} (h : Ow w base e k v zs) : ∀ g, v.ownBlock = some g → base ≤ g ∧ ∃ c fz, w.heap[g]? = some (.cells c e fz) := fun g hg => by
  rcases h.2 with ⟨rfl, _⟩ | ⟨g', cap, cur, rfl, hb, hgg, _⟩
  · simp [Value.ownBlock] at hg
  · simp [Value.ownBlock] at hg
    subst hg
    exact ⟨hb, cur, _, hgg⟩
theorem Ow.apart {w : World} {base g : Nat} {k : IntKind} {v : Value} {zs : List Int} {cs : Array Value} {e T : TypeId} (h : Ow w base e k v zs) (hb : Box w g cs T) (hT : T ≠ e) : v.ownBlock ≠ some g := fun hv => by
  obtain ⟨-, c, fz, hc⟩ := h.row g hv
  rw [Box] at hb
  rw [hb] at hc
  injection hc with hc
  injection hc with _ h2 _
  exact hT h2
end Go.Proofs.YtckpaikppgjfnaaGreatDoor
namespace Go.Proofs.YtckpaikppgjfnaaGreatDoor
open Go.RowKit

def encPart (x : InsV) (c : Nat) : List Int := if c = 110 then enc (zz x.n) else if c = 76 then encL [(x.args.length : Int)] ++ encL x.args else encL [fieldOf c x]
def encIns (x : InsV) : List Int := encL [x.op] ++ (partsN x.op).flatMap (encPart x)

theorem IntsV.lit (w : World) (l : List Int) (cs : Array Value) (T : TypeId) (h : cs.toList = l.map (Value.int .i64)) (hr : ∀ z ∈ l, i64R z) (hl : l.length ≤ 100) :
    IntsV (w.alloc (.cells cs T)) (· < (w.alloc (.cells cs T)).heap.size) (.slice (some ⟨w.heap.size, 0, none⟩) l.length l.length) l := by
  refine ⟨_, _, rfl, Nat.le_refl _, by omega, fun _ => ⟨_, _, rfl, by simp, fun j z hj => ⟨?_, hr z (List.mem_of_getElem? hj)⟩⟩⟩
  rw [(Box.new w cs T).cell (0 + j * 1) (v := .int .i64 z) ?_ |>.1]
  rw [← Array.getElem?_toList, h, List.getElem?_map, Nat.zero_add, Nat.mul_one, hj]; rfl
section
variable {w w1 w2 : World} {g base : Nat} {zs ys : List Int}
theorem Ow.iter {w : World} {base k : Nat} {e : TypeId} {q : IntKind} {v : Value} {zs : List Int} {s : ByteArray} {p p' : Nat} (h : Ow w base e q v zs) (hk : w.heap[k]? = some (.stringIter s p)) : Ow (w.iterAt k s p') base e q v zs := by
  refine ⟨h.1, ?_⟩
  rcases h.2 with h2 | ⟨g', cap, cur, hv, hbg, hh, r⟩
  · exact .inl h2
  · refine .inr ⟨g', cap, cur, hv, hbg, ?_, r⟩
    rw [Lib.iterAt_other _ _ _ _ _ (fun e => by rw [e, hk] at hh; cases hh)]
    exact hh
end
theorem flatMap_take {α : Type} {l : List α} {k : Nat} {c : α} {f : α → List Int} (h : l[k]? = some c) : (l.take (k + 1)).flatMap f = (l.take k).flatMap f ++ f c := by
  rw [List.take_add_one, h]; simp
theorem flatMap_take_le {α : Type} (l : List α) (k : Nat) (f : α → List Int) : ((l.take k).flatMap f).length ≤ (l.flatMap f).length := by
  conv => rhs; rw [← List.take_append_drop k l, List.flatMap_append, List.length_append]
  omega

end Go.Proofs.YtckpaikppgjfnaaGreatDoor
namespace Go.Proofs.YtckpaikppgjfnaaGreatDoor
open Go.RowKit

def encVar (kb : Int × Int) : List Int := encL [kb.1] ++ (if kb.1 = 2 then encL [kb.2] else [])
def encBlk (b : List InsV) : List Int := encL [(b.length : Int)] ++ b.flatMap encIns
def encFun (f : FunV) : List Int := encL [(f.kinds.length : Int)] ++ (f.kinds.zip f.base).flatMap encVar ++ encL [f.params, f.result, (f.blocks.length : Int)] ++ f.blocks.flatMap encBlk
def encProg (p : List FunV) : List Int := encL [(p.length : Int)] ++ p.flatMap encFun
/-- What the counts give the writer. -/
def blkFew (b : List InsV) : Prop := b.length ≤ 40 ∧ ∀ x ∈ b, x.args.length ≤ 4
def funFew (f : FunV) : Prop := f.kinds.length ≤ 48 ∧ f.base.length = f.kinds.length ∧ f.blocks.length ≤ 40 ∧ ∀ b ∈ f.blocks, blkFew b

def FBox (w : World) (h : Nat) (f : FunV) (vk vb vs : Value) : Prop := Box w h #[vk, vb, .int .i64 f.params, .int .i64 f.result, vs] 36

end Go.Proofs.YtckpaikppgjfnaaGreatDoor
namespace Go.Proofs.YtckpaikppgjfnaaGreatDoor
open Go.RowKit

def InsRR (x : InsV) : Prop := InsR x ∧ ∀ z ∈ x.args, i64R z
def FunR (f : FunV) : Prop := i64R f.params ∧ i64R f.result ∧ (∀ z ∈ f.kinds, i64R z) ∧ (∀ z ∈ f.base, i64R z) ∧ ∀ b ∈ f.blocks, ∀ x ∈ b, InsRR x
theorem Vec.each {α : Type} {s : Nat} {P : Nat → Nat → α → Prop} {S : Nat → Prop} {v : Value} {xs : List α} (h : Vec s P S v xs) : ∀ x ∈ xs, ∃ b o, P b o x := fun x hx => by
  obtain ⟨A, c, -, -, -, h3⟩ := h
  obtain ⟨j, hj⟩ := List.getElem?_of_mem hx
  obtain ⟨b, o, -, -, hc⟩ := h3 (by have := (List.getElem?_eq_some_iff.1 hj).1; omega)
  exact ⟨b, _, hc j x hj⟩
theorem IntsV.range {w : World} {S : Nat → Prop} {v : Value} {zs : List Int} (h : IntsV w S v zs) : ∀ z ∈ zs, i64R z := fun z hz => by
  obtain ⟨b, o, hc⟩ := Vec.each h z hz
  exact hc.2
theorem FunsV.range {w : World} {S : Nat → Prop} {v : Value} {p : List FunV} (h : FunsV w S v p) : ∀ f ∈ p, FunR f := fun f hf => by
  obtain ⟨b, o, vk, vb, vs, -, hi⟩ := Vec.each h f hf
  obtain ⟨h1, h2, h3, h4, h5⟩ := hi
  refine ⟨h4, h5, h1.range, h2.range, fun bl hbl x hx => ?_⟩
  obtain ⟨b', o', v', -, hb⟩ := Vec.each h3 bl hbl
  obtain ⟨b2, o2, va, -, hx2⟩ := Vec.each hb x hx
  exact ⟨hx2.2, hx2.1.range⟩

theorem flatMap_len {α : Type} (l : List α) (f : α → List Int) (m : Nat) (h : ∀ x ∈ l, (f x).length ≤ m) : (l.flatMap f).length ≤ l.length * m := by
  induction l with
  | nil => simp
  | cons a l ih =>
    have h1 := h a (by simp)
    have h2 := ih (fun x hx => h x (by simp [hx]))
    rw [List.flatMap_cons, List.length_append, List.length_cons, Nat.add_mul]
    omega
theorem encL_len' (l : List Int) (h : ∀ z ∈ l, i64R z) : (encL l).length ≤ 9 * l.length := encL_len l (fun z hz => (h z hz).2)
theorem i64R_nat {n : Nat} (h : n ≤ 9223372036854775807) : i64R (n : Int) := ⟨by omega, by omega⟩
theorem fieldOf_R {x : InsV} (h : InsR x) (c : Nat) : i64R (fieldOf c x) := by
  obtain ⟨-, h1, h2, h3, h4, h5⟩ := h
  unfold fieldOf
  split
  · exact h1
  · split
    · exact h2
    · split
      · exact h3
      · split
        · exact h5
        · exact h4
theorem encPart_len {x : InsV} (h : InsRR x) (ha : x.args.length ≤ 4) (c : Nat) : (encPart x c).length ≤ 45 := by
  unfold encPart
  split
  · have := enc_len10 (zz_lt h.1.2.2.2.2.1); omega
  · split
    · rw [List.length_append]
      have h1 := encL_len' [(x.args.length : Int)] (by simpa using i64R_nat (by omega))
      have h2 := encL_len' x.args h.2
      simp at h1
      omega
    · have := encL_len' [fieldOf c x] (by simpa using fieldOf_R h.1 c)
      simp at this
      omega
theorem encIns_len {x : InsV} (h : InsRR x) (ha : x.args.length ≤ 4) : (encIns x).length ≤ 144 := by
  unfold encIns
  rw [List.length_append]
  have h1 := encL_len' [x.op] (by simpa using h.1.1)
  have h2 := flatMap_len (partsN x.op) (encPart x) 45 (fun c _ => encPart_len h ha c)
  have h3 := partsN_len x.op
  have h4 : (partsN x.op).length * 45 ≤ 3 * 45 := Nat.mul_le_mul_right _ h3
  simp at h1
  omega
theorem encBlk_len {b : List InsV} (h : ∀ x ∈ b, InsRR x) (hf : blkFew b) : (encBlk b).length ≤ 5769 := by
  unfold encBlk
  rw [List.length_append]
  have h1 := encL_len' [(b.length : Int)] (by simpa using i64R_nat (by have := hf.1; omega))
  have h2 := flatMap_len b encIns 144 (fun x hx => encIns_len (h x hx) (hf.2 x hx))
  have h4 : b.length * 144 ≤ 40 * 144 := Nat.mul_le_mul_right _ hf.1
  simp at h1
  omega
theorem encVar_len {kb : Int × Int} (h1 : i64R kb.1) (h2 : i64R kb.2) : (encVar kb).length ≤ 18 := by
  unfold encVar
  have a := encL_len' [kb.1] (by simpa using h1)
  have b := encL_len' [kb.2] (by simpa using h2)
  rw [List.length_append]
  simp at a b
  split
  · omega
  · simp; omega
theorem encFun_len {f : FunV} (h : FunR f) (hf : funFew f) : (encFun f).length ≤ 231660 := by
  obtain ⟨hp, hr, hk, hb, hx⟩ := h
  obtain ⟨f1, f2, f3, f4⟩ := hf
  unfold encFun
  simp only [List.length_append]
  have h1 := encL_len' [(f.kinds.length : Int)] (by simpa using i64R_nat (by omega))
  have h2 := encL_len' [f.params, f.result, (f.blocks.length : Int)] (by
    intro z hz
    simp at hz
    rcases hz with rfl | rfl | rfl
    · exact hp
    · exact hr
    · exact i64R_nat (by omega))
  have h3 := flatMap_len (f.kinds.zip f.base) encVar 18 (fun kb hkb => by
    obtain ⟨a, b⟩ := kb
    have := List.of_mem_zip hkb
    exact encVar_len (hk _ this.1) (hb _ this.2))
  have h4 := flatMap_len f.blocks encBlk 5769 (fun b hb' => encBlk_len (hx b hb') (f4 b hb'))
  have h5 : f.blocks.length * 5769 ≤ 40 * 5769 := Nat.mul_le_mul_right _ f3
  have h6 : (f.kinds.zip f.base).length * 18 ≤ 48 * 18 := Nat.mul_le_mul_right _ (by simp; omega)
  simp at h1 h2
  omega
theorem encProg_len {p : List FunV} (h : ∀ f ∈ p, FunR f) (hf : ∀ f ∈ p, funFew f) (hp : p.length ≤ 8) : (encProg p).length ≤ 1853289 := by
  unfold encProg
  rw [List.length_append]
  have h1 := encL_len' [(p.length : Int)] (by simpa using i64R_nat (by omega))
  have h2 := flatMap_len p encFun 231660 (fun f hf' => encFun_len (h f hf') (hf f hf'))
  have h3 : p.length * 231660 ≤ 8 * 231660 := Nat.mul_le_mul_right _ hp
  simp at h1
  omega

theorem mayL_args {x : InsV} : ∀ {cs : List Nat} {r : InsV}, mayL x cs r = true → 76 ∉ cs → r.args = []
  | [], r, h, _ => by
    simp only [mayL, decide_eq_true_eq] at h
    rw [h]; rfl
  | c :: cs, r, h, hn => by
    have hn' : 76 ∉ cs := fun hh => hn (by simp [hh])
    have hc : ¬ c = 76 := fun hh => hn (by simp [hh])
    simp only [mayL, if_neg hc] at h
    split at h
    · exact mayL_args (r := { r with n := 0 }) h hn'
    · rw [Bool.and_eq_true] at h
      have := mayL_args h.2 hn'
      unfold setF at this
      split at this
      · exact this
      · split at this
        · exact this
        · split at this
          · exact this
          · split at this
            · exact this
            · exact this
theorem parts_call (op : Int) (h : 76 ∈ partsN op) : op = 19 := by
  unfold partsN at h
  split at h
  · cases h
  · rename_i h0
    have hall : ∀ j, j < 24 → 76 ∈ partsT.getD j [] → j = 19 := by decide
    by_cases hj : op.toNat < 24
    · have := hall _ hj h; omega
    · rw [List.getD, List.getElem?_eq_none (show partsT.length ≤ op.toNat by show 24 ≤ _; omega)] at h
      cases h
theorem may_few {p : List FunV} (h1 : cntB p = true) (h2 : p.all funMayB = true) : p.length ≤ 8 ∧ ∀ f ∈ p, funFew f := by
  simp only [cntB, Bool.and_eq_true, decide_eq_true_eq, List.all_eq_true] at h1 h2
  obtain ⟨-, h8, hc⟩ := h1
  refine ⟨h8, fun f hf => ?_⟩
  have a := hc f hf
  have b := h2 f hf
  simp only [funCnt, Bool.and_eq_true, decide_eq_true_eq, List.all_eq_true] at a
  simp only [funMayB, Bool.and_eq_true, decide_eq_true_eq, List.all_eq_true] at b
  refine ⟨a.1, b.1.1, a.2.1, fun bl hbl => ?_⟩
  have a2 := a.2.2 bl hbl
  simp only [blkCnt, Bool.and_eq_true, decide_eq_true_eq, List.all_eq_true] at a2
  refine ⟨a2.1, fun x hx => ?_⟩
  have a3 := a2.2 x hx
  have b3 := b.2.2 bl hbl x hx
  by_cases hop : x.op = 19
  · simp [insCnt, hop] at a3; exact a3
  · simp only [insMayB, Bool.and_eq_true] at b3
    have := mayL_args b3.2 (fun hh => hop (parts_call _ hh))
    rw [this]; simp

/-- What Encode answers: bytes, and an error's number. -/
def encR (p : List FunV) : List Int × Nat := if cntB p = true then (if p.all funMayB = true then (encProg p, 0) else ([], 1)) else ([], 9)
end Go.Proofs.YtckpaikppgjfnaaGreatDoor
namespace Go.Proofs.YtckpaikppgjfnaaGreatDoor
open Go.RowKit

/-- What Encode answers, in memory. -/
def EncA (W : World) (p : List FunV) (e : Ending) (w' : World) : Prop :=
  ∃ A c, e = .returned (.tuple #[.slice A (encR p).1.length c, .int .i64 ((encR p).2 : Int)]) ∧ Sl w' w'.heap.size .u8 A (encR p).1 ∧ (encR p).1.length ≤ c ∧ c ≤ 9223372036854775807 ∧ (encR p).1.length ≤ 2000000 ∧ Below W.heap.size W w'
theorem EncA.no {W w' : World} {p : List FunV} {k : Nat} (h : encR p = ([], k)) (hb : Below W.heap.size W w') : EncA W p (.returned (.tuple #[.slice none 0 0, .int .i64 (k : Int)])) w' :=
  ⟨none, 0, by rw [h]; rfl, by rw [h]; exact Sl.nil _ _ _ _, by rw [h]; exact Nat.le_refl _, by omega, by rw [h]; exact Nat.zero_le _, hb⟩
end Go.Proofs.YtckpaikppgjfnaaGreatDoor
namespace Go.Proofs.YtckpaikppgjfnaaGreatDoor
open Go.RowKit

end Go.Proofs.YtckpaikppgjfnaaGreatDoor
