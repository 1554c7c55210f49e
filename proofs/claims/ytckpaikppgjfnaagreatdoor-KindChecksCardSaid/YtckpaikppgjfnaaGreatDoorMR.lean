/- The contracts of the reference's SameIns, SameFunc, Same. No condition. -/
import Derived.Test.YtckpaikppgjfnaaGreatDoorMB
import Derived.Test.YtckpaikppgjfnaaGreatDoorMV
import Derived.StillTailTactics
import Derived.Test.YtckpaikppgjfnaaGreatDoorMD
import Derived.Test.YtckpaikppgjfnaaGreatDoorMC
import Derived.Test.YtckpaikppgjfnaaGreatDoorME
set_option linter.unusedSimpArgs false
set_option linter.unusedVariables false
namespace Go.Proofs.YtckpaikppgjfnaaGreatDoor
open Go.RowKit

theorem fun_eqr (x y : FunV) : decide (x = y) = (decide (x.kinds = y.kinds) && (decide (x.base = y.base) && (decide (x.params = y.params) && (decide (x.result = y.result) && decide (x.blocks = y.blocks))))) := by
  obtain ⟨k, b, p, r, l⟩ := x
  obtain ⟨k', b', p', r', l'⟩ := y
  rw [Bool.eq_iff_iff]
  simp

end Go.Proofs.YtckpaikppgjfnaaGreatDoor
namespace Go.Proofs.YtckpaikppgjfnaaGreatDoor
open Go.RowKit

theorem partsN_at {op : Int} {l : List Nat} (j : Nat) (hj : op = j) (hl : partsT.getD j [] = l) : partsN op = l := by
  subst hj; unfold partsN; rw [if_neg (by omega)]; exact hl
theorem partsN_not {op : Int} (h : ∀ j : Nat, 1 ≤ j → j ≤ 23 → op ≠ j) : partsN op = [] := by
  unfold partsN
  split
  · rfl
  · by_cases hj : op.toNat < 24
    · have h0 : op.toNat = 0 := by
        have := h op.toNat
        omega
      rw [h0]; rfl
    · rw [List.getD, List.getElem?_eq_none (show partsT.length ≤ op.toNat by show 24 ≤ _; omega)]; rfl
set_option maxRecDepth 100000 in
theorem rparts_any (op : Int) (w : World) :
    Calls Tryz.prog 64 #[.int .i64 op] w fun e w' => e = .returned (.string (strOf (partsN op))) ∧ w = w' := by
  by_cases hin : 1 ≤ op ∧ op ≤ 23
  · obtain ⟨h1, h2⟩ := hin
    obtain ⟨j, rfl⟩ : ∃ j : Nat, op = j := ⟨op.toNat, by omega⟩
    have hj : j = 1 ∨ j = 2 ∨ j = 3 ∨ j = 4 ∨ j = 5 ∨ j = 6 ∨ j = 7 ∨ j = 8 ∨ j = 9 ∨ j = 10 ∨ j = 11 ∨ j = 12 ∨ j = 13 ∨ j = 14 ∨ j = 15 ∨ j = 16 ∨ j = 17 ∨ j = 18 ∨ j = 19 ∨ j = 20 ∨ j = 21 ∨ j = 22 ∨ j = 23 := by omega
    clear h1 h2
    rcases hj with rfl | rfl | rfl | rfl | rfl | rfl | rfl | rfl | rfl | rfl | rfl | rfl | rfl | rfl | rfl | rfl | rfl | rfl | rfl | rfl | rfl | rfl | rfl
    all_goals
      go_enter Tryz.func64, Tryz.ntmps64
      go_wp2
      go_ret
      exact ⟨rfl, rfl⟩
  · have he := hide (show strOf (partsN op) = ⟨#[]⟩ by rw [partsN_not (fun j h1 h2 h => hin (by omega))]; rfl)
    have g : ∀ j : Int, 1 ≤ j → j ≤ 23 → (op == j) = false := fun j h1 h2 => by simp; omega
    have g1 := g 1 (by omega) (by omega); have g2 := g 2 (by omega) (by omega); have g3 := g 3 (by omega) (by omega); have g4 := g 4 (by omega) (by omega)
    have g5 := g 5 (by omega) (by omega); have g6 := g 6 (by omega) (by omega); have g7 := g 7 (by omega) (by omega); have g8 := g 8 (by omega) (by omega)
    have g9 := g 9 (by omega) (by omega); have g10 := g 10 (by omega) (by omega); have g11 := g 11 (by omega) (by omega); have g12 := g 12 (by omega) (by omega)
    have g13 := g 13 (by omega) (by omega); have g14 := g 14 (by omega) (by omega); have g15 := g 15 (by omega) (by omega); have g16 := g 16 (by omega) (by omega)
    have g17 := g 17 (by omega) (by omega); have g18 := g 18 (by omega) (by omega); have g19 := g 19 (by omega) (by omega); have g20 := g 20 (by omega) (by omega)
    have g21 := g 21 (by omega) (by omega); have g22 := g 22 (by omega) (by omega); have g23 := g 23 (by omega) (by omega)
    clear g hin
    go_enter Tryz.func64, Tryz.ntmps64
    go_wp2
    go_ret
    exact ⟨ret_str he.out.symm, rfl⟩

theorem Sl.other {w : World} {B g j : Nat} {A : Option Addr} {zs : List Int} {v : Value} (h : Sl w B .u8 A zs) (hg : ∀ a, A = some a → a.block ≠ g) : Sl (w.setCell ⟨g, j, none⟩ v) B .u8 A zs := fun hp => by
  obtain ⟨b, o, e, hb, hc⟩ := h hp
  refine ⟨b, o, e, hb, fun i hi => ?_⟩
  have hne : b ≠ g := hg _ e
  rw [← hc i hi]
  exact World.cell?_of_block (a := ⟨b, o + i, none⟩) (heap_setCell_other w ⟨g, j, none⟩ b v hne)
theorem encL_I (x : Int) : encL [x] = encI x := by simp [encL]

end Go.Proofs.YtckpaikppgjfnaaGreatDoor
namespace Go.Proofs.YtckpaikppgjfnaaGreatDoor
open Go.RowKit

theorem funCnt_no {p : List FunV} {k : Nat} {y : FunV} (hy : p[k]? = some y) (h : funCnt y = false) : cntB p = false := by
  unfold cntB; rw [allB_not hy h]; simp
theorem blkCnt_no {y : FunV} {k : Nat} {x : List InsV} (hx : y.blocks[k]? = some x) (h : blkCnt x = false) : funCnt y = false := by
  unfold funCnt; rw [allB_not hx h]; simp
theorem insCnt_no {x : List InsV} {k : Nat} {u : InsV} (hu : x[k]? = some u) (h : insCnt u = false) : blkCnt x = false := by
  unfold blkCnt; rw [allB_not hu h]; simp

end Go.Proofs.YtckpaikppgjfnaaGreatDoor
namespace Go.Proofs.YtckpaikppgjfnaaGreatDoor
open Go.RowKit

def okB (x : InsV) (c : Nat) : Bool := if c = 110 then true else if c = 76 then x.args.all (fun z => decide (0 ≤ z)) else decide (0 ≤ fieldOf c x)
def chk (x : InsV) (ls : List Nat) (c : Nat) : Bool := decide (c ∈ ls) || decide (fieldOf c x = 0)
def chkN (x : InsV) (ls : List Nat) : Bool := (decide (78 ∈ ls) || (decide (110 ∈ ls) || decide (x.n = 0))) && (decide (76 ∈ ls) || decide (x.args.length = 0))
def insB (x : InsV) : List Int := if partsN x.op = [] then [] else encIns x
theorem okB_iff (x : InsV) (c : Nat) : okB x c = true ↔ okP x c := by
  unfold okB okP
  split
  · simp
  · split
    · simp
    · simp
theorem rins_ok {x : InsV} (h : partsN x.op ≠ []) :
    (decide (0 ≤ x.op) && ((partsN x.op).all (okB x) && (([68, 65, 66, 77] : List Nat).all (chk x (partsN x.op)) && chkN x (partsN x.op)))) = insMayB x := by
  have hop : 0 ≤ x.op := by
    apply Classical.byContradiction
    intro h0
    exact h (by unfold partsN; rw [if_pos (by omega)])
  have hl := partsN_letter x.op
  have hn := parts_nodup x.op
  have he : (partsN x.op).isEmpty = false := by
    cases hq : partsN x.op with
    | nil => exact absurd hq h
    | cons a l => rfl
  rw [Bool.eq_iff_iff]
  unfold insMayB
  rw [he]
  generalize partsN x.op = ls at *
  simp only [Bool.and_eq_true, decide_eq_true_eq, List.all_eq_true, Bool.not_false, true_and, okB_iff]
  have key : ∀ k c, (∀ c', isLetter c' → (fkey c' = k ↔ c' = c)) → (k ∈ ls.map fkey ↔ c ∈ ls) := fun k c hk => by
    rw [List.mem_map]
    constructor
    · rintro ⟨c', h1, h2⟩
      rw [(hk c' (hl c' h1)).1 h2] at h1; exact h1
    · intro h1
      exact ⟨c, h1, (hk c (hl c h1)).2 rfl⟩
  have k1 := key 1 68 (by intro c' h'; unfold isLetter at h'; rcases h' with rfl | rfl | rfl | rfl | rfl | rfl | rfl <;> decide)
  have k2 := key 2 65 (by intro c' h'; unfold isLetter at h'; rcases h' with rfl | rfl | rfl | rfl | rfl | rfl | rfl <;> decide)
  have k3 := key 3 66 (by intro c' h'; unfold isLetter at h'; rcases h' with rfl | rfl | rfl | rfl | rfl | rfl | rfl <;> decide)
  have k5 := key 5 77 (by intro c' h'; unfold isLetter at h'; rcases h' with rfl | rfl | rfl | rfl | rfl | rfl | rfl <;> decide)
  have k6 := key 6 76 (by intro c' h'; unfold isLetter at h'; rcases h' with rfl | rfl | rfl | rfl | rfl | rfl | rfl <;> decide)
  have k4 : 4 ∈ ls.map fkey ↔ 78 ∈ ls ∨ 110 ∈ ls := by
    rw [List.mem_map]
    constructor
    · rintro ⟨c', h1, h2⟩
      have h' := hl c' h1
      unfold isLetter at h'
      rcases h' with rfl | rfl | rfl | rfl | rfl | rfl | rfl
      all_goals first | exact absurd h2 (by decide) | exact .inl h1 | exact .inr h1
    · rintro (h1 | h1)
      · exact ⟨78, h1, by decide⟩
      · exact ⟨110, h1, by decide⟩
  constructor
  · rintro ⟨-, h1, h2, h3⟩
    simp only [chkN, Bool.and_eq_true, Bool.or_eq_true, decide_eq_true_eq] at h3
    simp only [chk, List.forall_mem_cons, Bool.or_eq_true, decide_eq_true_eq] at h2
    refine mayL_of x ls x hl hn h1 (fun k _ => agr_refl k x) (fun k hk => ?_) rfl
    obtain ⟨a1, a2, a3, a4, -⟩ := h2
    by_cases hk1 : k = 1
    · subst hk1
      rcases a1 with a1 | a1
      · exact absurd (k1.2 a1) hk
      · simpa [agr, bare, fieldOf] using a1
    by_cases hk2 : k = 2
    · subst hk2
      rcases a2 with a1 | a1
      · exact absurd (k2.2 a1) hk
      · simpa [agr, bare, fieldOf] using a1
    by_cases hk3 : k = 3
    · subst hk3
      rcases a3 with a1 | a1
      · exact absurd (k3.2 a1) hk
      · simpa [agr, bare, fieldOf] using a1
    by_cases hk5 : k = 5
    · subst hk5
      rcases a4 with a1 | a1
      · exact absurd (k5.2 a1) hk
      · simpa [agr, bare, fieldOf] using a1
    by_cases hk4 : k = 4
    · subst hk4
      rcases h3.1 with a1 | a1 | a1
      · exact absurd (k4.2 (.inl a1)) hk
      · exact absurd (k4.2 (.inr a1)) hk
      · simpa [agr, bare] using a1
    by_cases hk6 : k = 6
    · subst hk6
      rcases h3.2 with a1 | a1
      · exact absurd (k6.2 a1) hk
      · simp only [agr, bare]; exact List.eq_nil_of_length_eq_zero a1
    · unfold agr; split <;> first | trivial | (exfalso; omega)
  · intro h0
    obtain ⟨h1, h2⟩ := mayL_inv x ls x hl hn (fun k _ => agr_refl k x) h0
    refine ⟨hop, h1, ?_, ?_⟩
    · simp only [chk, List.forall_mem_cons, Bool.or_eq_true, decide_eq_true_eq]
      refine ⟨?_, ?_, ?_, ?_, by simp⟩
      · by_cases hm : 68 ∈ ls
        · exact .inl hm
        · have := h2 1 (fun hh => hm (k1.1 hh)); simp only [agr, bare] at this; right; simpa [fieldOf] using this
      · by_cases hm : 65 ∈ ls
        · exact .inl hm
        · have := h2 2 (fun hh => hm (k2.1 hh)); simp only [agr, bare] at this; right; simpa [fieldOf] using this
      · by_cases hm : 66 ∈ ls
        · exact .inl hm
        · have := h2 3 (fun hh => hm (k3.1 hh)); simp only [agr, bare] at this; right; simpa [fieldOf] using this
      · by_cases hm : 77 ∈ ls
        · exact .inl hm
        · have := h2 5 (fun hh => hm (k5.1 hh)); simp only [agr, bare] at this; right; simpa [fieldOf] using this
    · simp only [chkN, Bool.and_eq_true, Bool.or_eq_true, decide_eq_true_eq]
      constructor
      · by_cases hm : 78 ∈ ls
        · exact .inl hm
        · by_cases hm2 : 110 ∈ ls
          · exact .inr (.inl hm2)
          · have := h2 4 (fun hh => (k4.1 hh).elim hm hm2); simp only [agr, bare] at this; exact .inr (.inr this)
      · by_cases hm : 76 ∈ ls
        · exact .inl hm
        · have := h2 6 (fun hh => hm (k6.1 hh)); simp only [agr, bare] at this; right; rw [this]; rfl

theorem rencPart_len {x : InsV} (h : InsRR x) (hc : insCnt x = true) {c : Nat} (hm : c ∈ partsN x.op) : (encPart x c).length ≤ 45 := by
  by_cases h76 : c = 76
  · have h19 := parts_call x.op (h76 ▸ hm)
    simp [insCnt, h19] at hc
    exact encPart_len h hc c
  · unfold encPart
    split
    · have := enc_len10 (zz_lt h.1.2.2.2.2.1); omega
    · have := encL_len' [fieldOf c x] (by simpa using fieldOf_R h.1 c)
      simp at this
      omega
theorem insB_len {x : InsV} (h : InsRR x) (hc : insCnt x = true) : (insB x).length ≤ 144 := by
  unfold insB
  split
  · simp
  · unfold encIns
    rw [List.length_append]
    have h1 := encL_len' [x.op] (by simpa using h.1.1)
    have h2 := flatMap_len (partsN x.op) (encPart x) 45 (fun c hm => rencPart_len h hc hm)
    have h3 := partsN_len x.op
    have h4 : (partsN x.op).length * 45 ≤ 3 * 45 := Nat.mul_le_mul_right _ h3
    simp at h1
    omega
end Go.Proofs.YtckpaikppgjfnaaGreatDoor
