/- Plain mathematics: whole programs there and back; bytes that go on, or end too early. No condition. -/
import Derived.Test.YtpgljbjgbjjcnaaDoorCForth
set_option linter.unusedSimpArgs false
set_option linter.unusedVariables false
namespace Go.Proofs.YtpgljbjgbjjcnaaDoor
open Go.RowKit

theorem fwd_ins : Fwd insT encIns (fun x => insMayB x = true ∧ InsRR x ∧ x.args.length ≤ 4) := fun x tail h => by
  obtain ⟨h1, ⟨hr, hra⟩, h4⟩ := h
  simp only [insMayB, Bool.and_eq_true] at h1
  obtain ⟨hp, hm⟩ := h1
  obtain ⟨m1, m2⟩ := mayL_inv x (partsN x.op) x (partsN_letter x.op) (parts_nodup x.op) (fun k _ => agr_refl k x) hm
  have hopn : numOk x.op := by
    have : 0 ≤ x.op := by
      by_cases h0 : x.op < 0
      · unfold partsN at hp; rw [if_pos h0] at hp; cases hp
      · omega
    have := hr.1.2
    unfold numOk; omega
  have hok : ∀ c ∈ partsN x.op, okR x c := fun c hc => by
    have := m1 c hc
    unfold okP at this
    unfold okR
    split
    · exact hr.2.2.2.2.1
    · rename_i h1
      rw [if_neg h1] at this
      split
      · rename_i h2
        rw [if_pos h2] at this
        exact ⟨by omega, fun z hz => ⟨this z hz, (hra z hz).2⟩⟩
      · rename_i h2
        rw [if_neg h2] at this
        exact ⟨this, (fieldOf_R hr c).2⟩
  have e := fwd_only isOpB 5 x.op ((partsN x.op).flatMap (encPart x) ++ tail) ⟨hopn, hp⟩
  obtain ⟨y, e2, j1, j2, j3⟩ := fold_fwd x tail (partsN x.op) (bare x.op) (partsN_letter x.op) (parts_nodup x.op) hok
  have hy : y = x := agr_ext (fun k => by
    by_cases hk : k ∈ (partsN x.op).map fkey
    · exact j1 k hk
    · have a := j2 k hk
      have b := m2 k hk
      unfold agr at *
      split <;> simp_all) j3
  unfold insT encIns
  simp only at e
  simp only [List.append_assoc, e, e2, hy]
def blkOk (b : List InsV) : Prop := (b.length : Int) ≤ 40 ∧ ∀ x ∈ b, insMayB x = true ∧ InsRR x ∧ x.args.length ≤ 4
theorem fwd_blk : Fwd blkT encBlk blkOk := fun b tail h => fwd_count fwd_ins 0 40 (by omega) b tail ⟨by omega, h.1, h.2⟩
def funOk (f : FunV) : Prop := FunR f ∧ funMayB f = true ∧ funFew f
theorem fwd_fun : Fwd funT encFun funOk := fun f tail h => by
  obtain ⟨⟨hp, hr, hk, hb, hx⟩, hm, f1, f2, f3, f4⟩ := h
  simp only [funMayB, Bool.and_eq_true, decide_eq_true_eq, List.all_eq_true] at hm
  obtain ⟨⟨-, m1, m2⟩, m3, m4⟩ := hm
  have hzl : (f.kinds.zip f.base).length = f.kinds.length := by simp; omega
  have e1 := fwd_count fwd_var 0 48 (by omega) (f.kinds.zip f.base) (encL [f.params] ++ (encL [f.result] ++ (encL [(f.blocks.length : Int)] ++ (f.blocks.flatMap encBlk ++ tail)))) ⟨by omega, by omega, fun kb hkb => by
    obtain ⟨a, b⟩ := kb
    have hz := List.of_mem_zip hkb
    exact ⟨m3 _ hkb, hk _ hz.1, hb _ hz.2⟩⟩
  have e2 := fwd_num f.params (encL [f.result] ++ (encL [(f.blocks.length : Int)] ++ (f.blocks.flatMap encBlk ++ tail))) ⟨m1, hp.2⟩
  have e3 := fwd_num f.result (encL [(f.blocks.length : Int)] ++ (f.blocks.flatMap encBlk ++ tail)) ⟨m2, hr.2⟩
  have e4 := fwd_count fwd_blk 0 40 (by omega) f.blocks tail ⟨by omega, by omega, fun b hb' => ⟨by have := (f4 b hb').1; omega, fun x hx' => ⟨m4 b hb' x hx', hx b hb' x hx', (f4 b hb').2 x hx'⟩⟩⟩
  have e5 : encL [f.params, f.result, (f.blocks.length : Int)] = encL [f.params] ++ encL [f.result] ++ encL [(f.blocks.length : Int)] := by simp [encL]
  have e1' : varsT (encFun f ++ tail, 0) = (f.kinds.zip f.base, (encL [f.params] ++ (encL [f.result] ++ (encL [(f.blocks.length : Int)] ++ (f.blocks.flatMap encBlk ++ tail))), 0)) := by
    unfold encFun
    rw [e5]
    simp only [hzl, List.append_assoc] at e1
    simp only [List.append_assoc]
    exact e1
  simp only [List.append_assoc] at e2 e3 e4
  have e4' : blksT (encL [(f.blocks.length : Int)] ++ (f.blocks.flatMap encBlk ++ tail), 0) = (f.blocks, (tail, 0)) := e4
  unfold funT
  simp only [e1', e2, e3, e4']
  congr 1
  obtain ⟨k, b, p, r, bl⟩ := f
  simp only [FunV.mk.injEq, and_true]
  simp only at f2
  exact ⟨List.map_fst_zip (by omega), List.map_snd_zip (by omega)⟩
def progOk (p : List FunV) : Prop := cntB p = true ∧ p.all funMayB = true ∧ ∀ f ∈ p, FunR f
theorem fwd_prog {p : List FunV} (h : progOk p) (tail : List Int) : progT (encProg p ++ tail, 0) = (p, (tail, 0)) := by
  obtain ⟨h1, h2, h3⟩ := h
  obtain ⟨f1, f2⟩ := may_few h1 h2
  have hl : 1 ≤ p.length := by
    simp only [cntB, Bool.and_eq_true, decide_eq_true_eq] at h1
    exact h1.1
  rw [List.all_eq_true] at h2
  exact fwd_count fwd_fun 1 8 (by omega) p tail ⟨by omega, by omega, fun f hf => ⟨h3 f hf, h2 f hf, f2 f hf⟩⟩
theorem encR_ok {p : List FunV} (h : (encR p).2 = 0) : cntB p = true ∧ p.all funMayB = true ∧ (encR p).1 = encProg p := by
  unfold encR at h ⊢
  split
  · rename_i h1
    rw [if_pos h1] at h
    split
    · rename_i h2; exact ⟨h1, h2, rfl⟩
    · rename_i h2; rw [if_neg h2] at h; cases h
  · rename_i h1
    rw [if_neg h1] at h; cases h
/-- What is encoded is decoded as it was; bytes behind it are a fault. -/
theorem enc_dec {p : List FunV} (hR : ∀ f ∈ p, FunR f) (h : (encR p).2 = 0) (more : List Int) : decR ((encR p).1 ++ more) = if more = [] then (p, 0) else ([], 11) := by
  obtain ⟨h1, h2, h3⟩ := encR_ok h
  unfold decR
  rw [h3, fwd_prog ⟨h1, h2, hR⟩ more]
  cases more with
  | nil => simp [endE]
  | cons a l => simp [endE]
theorem enc_inj {p q : List FunV} (hR : ∀ f ∈ p, FunR f) (hS : ∀ f ∈ q, FunR f) (h : (encR p).2 = 0) (h2 : (encR q).2 = 0) : ((encR p).1 = (encR q).1) = (p = q) := by
  rw [eq_iff_iff]
  constructor
  · intro e
    have a := enc_dec hR h []
    have b := enc_dec hS h2 []
    rw [e, b] at a
    simp at a
    exact a.symm
  · intro e; rw [e]

/-! ### A beginning -/
/-- Of bytes that are read without an error a beginning is read alike, or ends too early. -/
def Pre {α : Type} (T : St → α × St) : Prop := ∀ zs ys : List Int, (T (zs ++ ys, 0)).2.2 = 0 → (∃ r, (T (zs ++ ys, 0)).2.1 = r ++ ys ∧ T (zs, 0) = ((T (zs ++ ys, 0)).1, (r, 0))) ∨ (T (zs, 0)).2.2 = 2
theorem rd_pre (most : Nat) : ∀ (zs ys : List Int) (u i : Nat), (rd most u i (zs ++ ys)).2.2 = 0 → ((rd most u i (zs ++ ys)).2.1 ≤ i + zs.length ∧ rd most u i zs = rd most u i (zs ++ ys)) ∨ (rd most u i zs).2.2 = 2
  | [], ys, u, i, h => by
    right
    cases ys with
    | nil => simp only [List.append_nil, rd] at h; split at h <;> simp at h
    | cons y ys =>
      simp only [List.nil_append, rd] at h ⊢
      by_cases h0 : i < most
      · rw [if_pos h0]
      · rw [if_neg h0] at h; simp at h
  | z :: zs, ys, u, i, h => by
    simp only [List.cons_append, rd] at h ⊢
    by_cases h0 : i < most
    · rw [if_pos h0] at h ⊢
      rw [if_pos h0]
      by_cases h1 : 128 ≤ z
      · rw [if_pos h1] at h ⊢
        rw [if_pos h1]
        rcases rd_pre most zs ys _ (i + 1) h with ⟨a, b⟩ | a
        · left; exact ⟨by simp <;> omega, b⟩
        · right; exact a
      · rw [if_neg h1] at h ⊢
        rw [if_neg h1]
        left
        split
        · rename_i h2; rw [if_pos h2] at h; cases h
        · rename_i h2
          rw [if_neg h2] at h
          split
          · rename_i h3; rw [if_pos h3] at h; cases h
          · exact ⟨by simp <;> omega, rfl⟩
    · rw [if_neg h0] at h; simp at h
theorem pre_num : Pre numT := fun zs ys h => by
  unfold numT at h ⊢
  simp only [if_true] at h ⊢
  rcases rd_pre 9 zs ys 0 0 h with ⟨a, b⟩ | a
  · left
    refine ⟨zs.drop (rd 9 0 0 (zs ++ ys)).2.1, ?_, ?_⟩
    · rw [List.drop_append_of_le_length (by omega)]
    · rw [b, h]
  · right; exact a
theorem pre_snum : Pre snumT := fun zs ys h => by
  unfold snumT at h ⊢
  simp only [if_true] at h ⊢
  rcases rd_pre 10 zs ys 0 0 h with ⟨a, b⟩ | a
  · left
    refine ⟨zs.drop (rd 10 0 0 (zs ++ ys)).2.1, ?_, ?_⟩
    · rw [List.drop_append_of_le_length (by omega)]
    · rw [b, h]
  · right; exact a
theorem pre_only (may : Int → Bool) (er : Nat) (her : er ≠ 0) : Pre (onlyT may er) := fun zs ys h => by
  by_cases h0 : (numT (zs ++ ys, 0)).2.2 = 0
  · by_cases hm : may (numT (zs ++ ys, 0)).1 = true
    · have e : onlyT may er (zs ++ ys, 0) = numT (zs ++ ys, 0) := by unfold onlyT; rw [if_pos h0, if_pos hm]
      rw [e]
      rcases pre_num zs ys h0 with ⟨r, e1, e2⟩ | a
      · left
        refine ⟨r, e1, ?_⟩
        unfold onlyT
        rw [e2]
        simp only [if_true, hm]
      · right
        unfold onlyT
        rw [if_neg (by rw [a]; omega)]
        exact a
    · unfold onlyT at h
      rw [if_pos h0, if_neg hm] at h
      exact absurd h her
  · unfold onlyT at h
    rw [if_neg h0] at h
    exact absurd h h0
theorem pre_seq {α β : Type} {A : St → α × St} {G : α → St → β × St} (hA : Pre A) (hG : ∀ a, Pre (G a)) (hs : ∀ a, Stk (G a)) : Pre (fun s => G (A s).1 (A s).2) := fun zs ys h => by
  simp only at h ⊢
  have h0 := (hs _).ok h
  rcases hA zs ys h0 with ⟨r, e1, e2⟩ | a
  · rw [e2]
    generalize A (zs ++ ys, 0) = p at *
    obtain ⟨a, r2, e⟩ := p
    simp only at h h0 e1 ⊢
    subst h0 e1
    exact hG a r ys h
  · right
    rw [hs _ _ (by rw [a]; omega)]
    exact a
theorem pre_map {α β : Type} {T : St → α × St} (h : Pre T) (f : α → β) : Pre (fun s => (f (T s).1, (T s).2)) := fun zs ys he => by
  rcases h zs ys he with ⟨r, e1, e2⟩ | a
  · left; exact ⟨r, e1, by simp only [e2]⟩
  · right; exact a
theorem stk_map {α β : Type} {T : St → α × St} (h : Stk T) (f : α → β) : Stk (fun s => (f (T s).1, (T s).2)) := fun s hs => h s hs
theorem pre_pure {α : Type} (a : α) : Pre (fun s => (a, s)) := fun zs ys h => by
  left; exact ⟨zs, rfl, rfl⟩
theorem stk_pure {α : Type} (a : α) : Stk (fun s => (a, s)) := fun _ _ => rfl
theorem pre_var : Pre varT := by
  have hS : ∀ k : Int, Stk (fun s : St => if k = 2 then ((((2 : Int), (numT s).1), (numT s).2) : (Int × Int) × St) else ((k, (-1 : Int)), s)) := fun k => by
    by_cases h : k = 2
    · simp only [if_pos h]; exact stk_map stk_num (fun v => ((2 : Int), v))
    · simp only [if_neg h]; exact stk_pure _
  have := pre_seq (pre_only kindB 5 (by omega)) (G := fun k s => if k = 2 then ((((2 : Int), (numT s).1), (numT s).2) : (Int × Int) × St) else ((k, (-1 : Int)), s)) (fun k => by
    by_cases h : k = 2
    · simp only [if_pos h]; exact pre_map pre_num (fun v => ((2 : Int), v))
    · simp only [if_neg h]; exact pre_pure _) hS
  exact this
theorem pre_many {α : Type} {T : St → α × St} (h : Pre T) (hs : Stk T) : ∀ n, Pre (manyT T n)
  | 0 => pre_pure []
  | n + 1 => pre_seq (pre_many h hs n) (G := fun l s => (l ++ [(T s).1], (T s).2)) (fun l => pre_map h (fun x => l ++ [x])) (fun l => stk_map hs (fun x => l ++ [x]))
theorem pre_count {α : Type} {T : St → α × St} (h : Pre T) (hs : Stk T) (lo hi : Int) : Pre (fun s => manyT T (cntT lo hi s).1.toNat (cntT lo hi s).2) :=
  pre_seq (pre_only (limB lo hi) 9 (by omega)) (G := fun n s => manyT T n.toNat s) (fun n => pre_many h hs _) (fun n => stk_many hs _)
theorem pre_list : Pre listT := pre_count pre_num stk_num 0 4
theorem pre_part (x : InsV) (c : Nat) : Pre (fun s => partT (x, s) c) := by
  unfold partT
  by_cases h1 : c = 110
  · simp only [if_pos h1]; exact pre_map pre_snum (fun v => { x with n := v })
  · by_cases h2 : c = 76
    · simp only [if_neg h1, if_pos h2]; exact pre_map pre_list (fun v => { x with args := v })
    · simp only [if_neg h1, if_neg h2]; exact pre_map pre_num (fun v => setF c v x)
theorem pre_fold : ∀ (ls : List Nat) (x : InsV), Pre (fun s => ls.foldl partT (x, s))
  | [], x => pre_pure x
  | c :: cs, x => pre_seq (pre_part x c) (G := fun y s => cs.foldl partT (y, s)) (fun y => pre_fold cs y) (fun y s h => stk_fold cs (y, s) h)
theorem pre_ins : Pre insT := pre_seq (pre_only isOpB 5 (by omega)) (G := fun op s => (partsN op).foldl partT (bare op, s)) (fun op => pre_fold _ _) (fun op s h => stk_fold _ (bare op, s) h)
theorem pre_blk : Pre blkT := pre_count pre_ins stk_ins 0 40
theorem pre_vars : Pre varsT := pre_count pre_var stk_var 0 48
theorem pre_blks : Pre blksT := pre_count pre_blk stk_blk 0 40
theorem pre_fun : Pre funT :=
  pre_seq pre_vars (G := fun vs s => ((⟨vs.map (·.1), vs.map (·.2), (numT s).1, (numT (numT s).2).1, (blksT (numT (numT s).2).2).1⟩ : FunV), (blksT (numT (numT s).2).2).2))
    (fun vs => pre_seq pre_num (G := fun pa s => ((⟨vs.map (·.1), vs.map (·.2), pa, (numT s).1, (blksT (numT s).2).1⟩ : FunV), (blksT (numT s).2).2))
      (fun pa => pre_seq pre_num (G := fun re s => ((⟨vs.map (·.1), vs.map (·.2), pa, re, (blksT s).1⟩ : FunV), (blksT s).2))
        (fun re => pre_map pre_blks (fun bs => (⟨vs.map (·.1), vs.map (·.2), pa, re, bs⟩ : FunV)))
        (fun re => stk_map stk_blks (fun bs => (⟨vs.map (·.1), vs.map (·.2), pa, re, bs⟩ : FunV))))
      (fun pa s h => by simp only; rw [stk_num s h, stk_blks s h]))
    (fun vs s h => by simp only; rw [stk_num s h, stk_num s h, stk_blks s h])
theorem pre_prog : Pre progT := pre_count pre_fun stk_fun 1 8
/-- A beginning of a program's bytes ends too early. -/
theorem enc_cut {p : List FunV} (hR : ∀ f ∈ p, FunR f) (h : (encR p).2 = 0) {k : Nat} (hk : k < (encR p).1.length) : decR ((encR p).1.take k) = ([], 2) := by
  obtain ⟨h1, h2, h3⟩ := encR_ok h
  rw [h3] at hk ⊢
  have e := fwd_prog ⟨h1, h2, hR⟩ []
  rw [List.append_nil, ← List.take_append_drop k (encProg p)] at e
  rcases pre_prog ((encProg p).take k) ((encProg p).drop k) (by rw [e]) with ⟨r, a, -⟩ | a
  · rw [e] at a
    simp only at a
    have := congrArg List.length a
    simp at this
    omega
  · unfold decR endE
    rw [if_neg (by rw [if_neg (by rw [a]; omega), a]; omega), if_neg (by rw [a]; omega), a]
end Go.Proofs.YtpgljbjgbjjcnaaDoor
