/- Texts of several names, of which only what the statement needs is kept. -/
import Derived.Test.YtehboglielnjbaaGreatDoorPlKM
import Derived.Deep.AppendLies
/- Layer 8, the program: contract of Check. Condition: the tables of parts and of rows read as listed; no argument list is longer than a machine's memory. -/
set_option linter.unusedSimpArgs false
set_option linter.unusedVariables false
namespace Go.Proofs.YtehboglielnjbaaGreatDoor
open Go.RowKit

def Asked (st : Bool) (p : List FunV) : Prop := ∃ f ∈ p, AskF st f
/-- What Check answers: the form first, then the kinds, what is not set, what is not fresh. -/
def ChkR (p : List FunV) (n : Nat) : Prop :=
  (progB4 p = false ∧ n = 5) ∨ (progB4 p = true ∧ misB p = true ∧ n = 6) ∨ (progB4 p = true ∧ misB p = false ∧ Asked false p ∧ n = 7) ∨ (progB4 p = true ∧ misB p = false ∧ ¬ Asked false p ∧ Asked true p ∧ n = 8) ∨ (progB4 p = true ∧ misB p = false ∧ ¬ Asked false p ∧ ¬ Asked true p ∧ n = 0)
theorem useOk_of {p : List FunV} (h : progB4 p = true) (hf : progFew p) : ∀ f ∈ p, ∀ l ∈ f.blocks, ∀ x ∈ l, UseOk x := by
  intro f hfm l hl x hx
  obtain ⟨-, -, -, hall⟩ := prog_parts h
  obtain ⟨⟨-, hk, -⟩, -, -, -, hmay⟩ := fun_parts (hall f hfm)
  refine ⟨hf f hfm l hl x hx, fun v hv => ?_⟩
  have := inVar_nn ((may_parts (hmay l hl x hx)).2.2.2.1 v hv)
  unfold i64R
  omega
set_option maxHeartbeats 4000000 in
set_option maxRecDepth 100000 in
theorem kcheck_any (p : List FunV) (vp : Value) (w : World) (B : Nat) (hB : B ≤ w.heap.size) (hp : FunsV w (· < B) vp p) (hT : TabP w) (hR : RowP w) (hf : progFew p) :
    Calls Tryz.prog 6 #[.agg #[vp]] w fun e w' => ∃ n : Nat, e = .returned (.int .i64 (n : Int)) ∧ ChkR p n ∧ Below w.heap.size w w' := by
  have HCK := hide (fun (W : World) (hW : Below w.heap.size w W) => check_any vp p W B (by have := hW.size; omega) (hT.below hW hT.1) (hp.keep (up hW hB) (fun _ h => h)) hf)
  have HMI := hide (fun (W : World) (hW : Below w.heap.size w W) (h : progB4 p = true) => kmis_any p vp W B (by have := hW.size; omega) (hp.keep (up hW hB) (fun _ h => h)) (hR.below hW hR.1) (fitOk_of h))
  have HAU := hide (fun (W : World) (hW : Below w.heap.size w W) (h : progB4 p = true) => kaskedU_any p vp W B (by have := hW.size; omega) (hp.keep (up hW hB) (fun _ h => h)) (hT.below hW hT.1) (kOk_of h) (useOk_of h hf))
  have HAS := hide (fun (W : World) (hW : Below w.heap.size w W) (h : progB4 p = true) => kaskedS_any p vp W B (by have := hW.size; omega) (hp.keep (up hW hB) (fun _ h => h)) (hT.below hW hT.1) (kOk_of h) (useOk_of h hf))
  obtain ⟨Ap, cp, rfl, hcp, hmp⟩ := hp.open'
  obtain ⟨lp, hlp⟩ : ∃ lp, p.length = lp := ⟨_, rfl⟩
  rw [hlp] at HCK HMI HAU HAS
  rw [hlp]
  clear hp hT hR hf hlp hcp hmp
  obtain ⟨b4, hb4⟩ : ∃ b4, progB4 p = b4 := ⟨_, rfl⟩
  obtain ⟨b6, hb6⟩ : ∃ b6, misB p = b6 := ⟨_, rfl⟩
  cases b4
  · have HP := hide hb4
    have hc : chkN4 p = 5 := by unfold chkN4; rw [hb4]; rfl
    rw [hc] at HCK
    clear hb4 hb6 hc HMI HAU HAS
    go_enter Tryz.func6, Tryz.ntmps6
    go_upto_region 1 with (fail)
    obtain ⟨w1, hw1⟩ : ∃ w1, w1 = w.alloc (.cells #[.slice Ap lp cp] 24) := ⟨_, rfl⟩
    obtain ⟨h5, hh5⟩ : ∃ h5, w.heap.size = h5 := ⟨_, rfl⟩
    have HX0 := hide (show Box w1 (h5) #[.slice Ap lp cp] 24 by rw [hw1, ← hh5]; have t := Box.new w #[.slice Ap lp cp] 24; (try simp only [World.size_alloc] at t); exact t)
    have HB1 := hide (show Below w.heap.size w w1 by rw [hw1]; exact ((Below.refl _ _).alloc (Nat.le_refl _) _))
    have w1s := HB1.out.size
    have w1z := hide (show w1.heap.size = h5 + 1 by rw [hw1, ← hh5]; simp only [World.size_alloc])
    have HK0 := hide (fun (W : World) (hW : Below w1.heap.size w1 W) => ((HX0.out.below hW).cell 0 (v := .slice Ap lp cp) rfl).1)
    have lHX0 := HX0.out.lt
    have h5g : w.heap.size ≤ h5 := by omega
    rw [← hw1, hh5]
    clear hw1 hh5
    have p0 := HK0.out w1 (Below.refl _ _)
    go_wp2_with (first
    | (go_at_call 26; (with_reducible refine (HCK.out w1 HB1.out).mono ?_); rintro e w2 ⟨rfl, hb2⟩; have HB2 := hide (HB1.out.trans (hb2.mono HB1.out.size)); have p2 := HK0.out w2 hb2; have HQ2 := hide hb2; clear hb2)
    | (go_at_call 27; (with_reducible refine (HMI.out w2 HB2.out).mono ?_); rintro e w3 ⟨rfl, hb3⟩; have HB3 := hide (HB2.out.trans (hb3.mono HB2.out.size)); have HQ3 := hide (HQ2.out.trans (hb3.mono HQ2.out.size)); have p3 := HK0.out w3 HQ3.out; clear hb3)
    | (go_at_call 28; (with_reducible refine (HAU.out w3 HB3.out).mono ?_); rintro e w4 ⟨R4, rfl, hr4, hb4⟩; have HR4 := hide hr4; have HB4 := hide (HB3.out.trans (hb4.mono HB3.out.size)); have HQ4 := hide (HQ3.out.trans (hb4.mono HQ3.out.size)); have p4 := HK0.out w4 HQ4.out; clear hb4 hr4; cases R4)
    | (go_at_call 28; (with_reducible refine (HAS.out w4 HB4.out).mono ?_); rintro e w5 ⟨R5, rfl, hr5, hb5⟩; have HR5 := hide hr5; have HB5 := hide (HB4.out.trans (hb5.mono HB4.out.size)); clear hb5 hr5; cases R5))
    go_ret
    exact ⟨5, rfl, .inl ⟨HP.out, rfl⟩, HB2.out⟩
  have HP := hide hb4
  have hc : chkN4 p = 0 := by unfold chkN4; rw [hb4]; rfl
  rw [hc] at HCK
  have HMI := hide (fun W hW => HMI.out W hW hb4)
  have HAU := hide (fun W hW => HAU.out W hW hb4)
  have HAS := hide (fun W hW => HAS.out W hW hb4)
  rw [hb6] at HMI
  have HQ := hide hb6
  clear hb4 hb6 hc
  cases b6
  all_goals
    go_enter Tryz.func6, Tryz.ntmps6
    go_upto_region 1 with (fail)
    obtain ⟨w1, hw1⟩ : ∃ w1, w1 = w.alloc (.cells #[.slice Ap lp cp] 24) := ⟨_, rfl⟩
    obtain ⟨h5, hh5⟩ : ∃ h5, w.heap.size = h5 := ⟨_, rfl⟩
    have HX0 := hide (show Box w1 (h5) #[.slice Ap lp cp] 24 by rw [hw1, ← hh5]; have t := Box.new w #[.slice Ap lp cp] 24; (try simp only [World.size_alloc] at t); exact t)
    have HB1 := hide (show Below w.heap.size w w1 by rw [hw1]; exact ((Below.refl _ _).alloc (Nat.le_refl _) _))
    have w1s := HB1.out.size
    have w1z := hide (show w1.heap.size = h5 + 1 by rw [hw1, ← hh5]; simp only [World.size_alloc])
    have HK0 := hide (fun (W : World) (hW : Below w1.heap.size w1 W) => ((HX0.out.below hW).cell 0 (v := .slice Ap lp cp) rfl).1)
    have lHX0 := HX0.out.lt
    have h5g : w.heap.size ≤ h5 := by omega
    rw [← hw1, hh5]
    clear hw1 hh5
    have p0 := HK0.out w1 (Below.refl _ _)
    go_wp2_with (first
    | (go_at_call 26; (with_reducible refine (HCK.out w1 HB1.out).mono ?_); rintro e w2 ⟨rfl, hb2⟩; have HB2 := hide (HB1.out.trans (hb2.mono HB1.out.size)); have p2 := HK0.out w2 hb2; have HQ2 := hide hb2; clear hb2)
    | (go_at_call 27; (with_reducible refine (HMI.out w2 HB2.out).mono ?_); rintro e w3 ⟨rfl, hb3⟩; have HB3 := hide (HB2.out.trans (hb3.mono HB2.out.size)); have HQ3 := hide (HQ2.out.trans (hb3.mono HQ2.out.size)); have p3 := HK0.out w3 HQ3.out; clear hb3)
    | (go_at_call 28; (with_reducible refine (HAU.out w3 HB3.out).mono ?_); rintro e w4 ⟨R4, rfl, hr4, hb4⟩; have HR4 := hide hr4; have HB4 := hide (HB3.out.trans (hb4.mono HB3.out.size)); have HQ4 := hide (HQ3.out.trans (hb4.mono HQ3.out.size)); have p4 := HK0.out w4 HQ4.out; clear hb4 hr4; cases R4)
    | (go_at_call 28; (with_reducible refine (HAS.out w4 HB4.out).mono ?_); rintro e w5 ⟨R5, rfl, hr5, hb5⟩; have HR5 := hide hr5; have HB5 := hide (HB4.out.trans (hb5.mono HB4.out.size)); clear hb5 hr5; cases R5))
    all_goals
      go_ret
      first
        | exact ⟨6, rfl, .inr (.inl ⟨HP.out, HQ.out, rfl⟩), HB3.out⟩
        | exact ⟨7, rfl, .inr (.inr (.inl ⟨HP.out, HQ.out, HR4.out.1 (by simp), rfl⟩)), HB4.out⟩
        | exact ⟨8, rfl, .inr (.inr (.inr (.inl ⟨HP.out, HQ.out, (fun h => by have := HR4.out.2 h; cases this), HR5.out.1 (by simp), rfl⟩))), HB5.out⟩
        | exact ⟨0, rfl, .inr (.inr (.inr (.inr ⟨HP.out, HQ.out, (fun h => by have := HR4.out.2 h; cases this), (fun h => by have := HR5.out.2 h; cases this), rfl⟩))), HB5.out⟩
end Go.Proofs.YtehboglielnjbaaGreatDoor

/- Layer 8: own lists of instructions; the statement's tiny programs in memory. No condition. -/
set_option linter.unusedSimpArgs false
set_option linter.unusedVariables false
namespace Go.Proofs.YtehboglielnjbaaGreatDoor
open Go.RowKit

def inC (x : InsV) : List Value := [.int .i64 x.op, .int .i64 x.d, .int .i64 x.a, .int .i64 x.b, .int .i64 x.n, .int .i64 x.m, .slice none 0 0]
def OwI (w : World) (base : Nat) (v : Value) (l : List InsV) : Prop := w.ownsRow base 47 7 v l.length (l.flatMap inC)
theorem flat7 : ∀ (l : List InsV) (j i : Nat) (y : InsV), l[j]? = some y → i < 7 → (l.flatMap inC)[j * 7 + i]? = (inC y)[i]?
  | [], j, i, y, h, _ => by simp at h
  | x :: l, 0, i, y, h, hi => by
    simp at h
    subst h
    rw [List.flatMap_cons, Nat.zero_mul, Nat.zero_add, List.getElem?_append_left (by exact hi)]
  | x :: l, j + 1, i, y, h, hi => by
    have h1 : (inC x).length = 7 := rfl
    rw [List.flatMap_cons, List.getElem?_append_right (by rw [h1, Nat.succ_mul]; omega), h1, show (j + 1) * 7 + i - 7 = j * 7 + i by rw [Nat.succ_mul]; omega]
    exact flat7 l j i y (by simpa using h) hi
theorem OwI.cells {w : World} {base g cap : Nat} {l : List InsV} (h : OwI w base (.slice (some ⟨g, 0, none⟩) l.length cap) l) {j : Nat} {y : InsV} (hy : l[j]? = some y) {i : Nat} {u : Value} (hu : (inC y)[i]? = some u) : w.cell? ⟨g, j * 7 + i, none⟩ = some u := by
  have hi : i < 7 := (List.getElem?_eq_some_iff.1 hu).1
  have hj : j < l.length := (List.getElem?_eq_some_iff.1 hy).1
  rw [World.ownsRow.cellAt h (j * 7 + i) (by omega), flat7 l j i y hy hi]
  exact hu
theorem flat7_len (l : List InsV) : (l.flatMap inC).length = l.length * 7 := by
  induction l with
  | nil => rfl
  | cons x l ih => rw [List.flatMap_cons, List.length_append, ih, List.length_cons, show (inC x).length = 7 from rfl]; omega
theorem OwI.lit (w : World) {base : Nat} (cs : Array Value) (l : List InsV) (n : Nat) (hn : l.length = n) (hb : base ≤ w.heap.size) (hm : n ≤ 100) (hs : cs.toList = l.flatMap inC) : OwI (w.alloc (.cells cs 47)) base (.slice (some ⟨w.heap.size, 0, none⟩) n n) l := by
  subst hn
  unfold OwI
  rw [← hs]
  exact World.ownsRow_lit w cs _ hb (by simp only [maxLen]; omega) (by rw [← Array.length_toList, hs, flat7_len])
theorem OwI.cap {w : World} {base g n cap : Nat} {l : List InsV} (h : OwI w base (.slice (some ⟨g, 0, none⟩) n cap) l) : l.length ≤ cap ∧ cap ≤ maxLen := by
  rcases h.2 with ⟨h, -⟩ | ⟨g', cap', cur, e, hg, hh, hnc, hcm, -⟩
  · cases h
  · injection e with _ _ e
    subst e
    exact ⟨hnc, hcm⟩
theorem OwI.but {w w' : World} {base g n cap h : Nat} {l : List InsV} (hr : OwI w base (.slice (some ⟨g, 0, none⟩) n cap) l) (hb : But h w w') (hg : g ≠ h) : OwI w' base (.slice (some ⟨g, 0, none⟩) n cap) l :=
  World.ownsRow.kept hr (row := some h) ⟨hb.os, hb.tape, hb.output, hb.size, fun i hi hne => hb.block i hi (fun e => hne (by rw [e]))⟩ (.inr (by simp [Value.ownBlock]; exact hg))
/-- A tiny program in memory: at K what tells its function lies, its code is the call's own. -/
def TinyK (w : World) (base K g cap : Nat) (l : List InsV) : Prop :=
  OwI w base (.slice (some ⟨g, 0, none⟩) l.length cap) l ∧ Box w K #[.int .i64 0, .int .i64 1, .int .i64 2] 3 ∧ Box w (K + 1) #[.int .i64 (-1), .int .i64 (-1), .int .i64 1] 3 ∧ Box w (K + 1 + 1) #[.slice (some ⟨g, 0, none⟩) l.length cap] 39 ∧
    Box w (K + 1 + 1 + 1) #[.slice (some ⟨K, 0, none⟩) 3 3, .slice (some ⟨K + 1, 0, none⟩) 3 3, .int .i64 0, .int .i64 0, .slice (some ⟨K + 1 + 1, 0, none⟩) 1 1] 32 ∧ base ≤ K ∧ base ≤ g ∧ l.length ≤ cap ∧ cap ≤ maxLen
end Go.Proofs.YtehboglielnjbaaGreatDoor

/- Layer 8, the statements: the fixed fact. Condition: the tables read as listed. -/
set_option linter.unusedSimpArgs false
set_option linter.unusedVariables false
namespace Go.Proofs.YtehboglielnjbaaGreatDoor
open Go.RowKit

def CodeAt (w : World) (g o : Nat) (l : List InsV) : Prop := g < w.heap.size ∧ ∀ (j : Nat) (y : InsV) (i : Nat) (u : Value), l[j]? = some y → (inC y)[i]? = some u → w.cell? ⟨g, o + j * 7 + i, none⟩ = some u
theorem CodeAt.of {w : World} {base g cap n : Nat} {l : List InsV} (h : OwI w base (.slice (some ⟨g, 0, none⟩) n cap) l) (hn : l.length = n) : CodeAt w g 0 l := by
  subst hn
  exact ⟨(World.ownsRow.lt h g rfl).2, fun j y i u hy hu => by rw [Nat.zero_add]; exact h.cells hy hu⟩
theorem CodeAt.tail {w : World} {g o : Nat} {x : InsV} {l : List InsV} (h : CodeAt w g o (x :: l)) : CodeAt w g (o + 7) l :=
  ⟨h.1, fun j y i u hy hu => by rw [show o + 7 + j * 7 + i = o + (j + 1) * 7 + i by omega]; exact h.2 (j + 1) y i u (by simpa using hy) hu⟩
theorem CodeAt.below {w w' : World} {g o : Nat} {l : List InsV} (h : CodeAt w g o l) (hb : Below w.heap.size w w') : CodeAt w' g o l :=
  ⟨by have := hb.size; have := h.1; omega, fun j y i u hy hu => (hb.cell (p := ⟨g, o + j * 7 + i, none⟩) h.1).trans (h.2 j y i u hy hu)⟩
theorem CodeAt.but {w w' : World} {g o k : Nat} {l : List InsV} (h : CodeAt w g o l) (hb : But k w w') (hk : g ≠ k) : CodeAt w' g o l :=
  ⟨by have := hb.size; have := h.1; omega, fun j y i u hy hu => (World.cell?_of_block (a := ⟨g, o + j * 7 + i, none⟩) (hb.block g h.1 hk)).trans (h.2 j y i u hy hu)⟩
def TinyQ (w : World) (K g o cap : Nat) (l : List InsV) : Prop :=
  CodeAt w g o l ∧ Box w K #[.int .i64 0, .int .i64 1, .int .i64 2] 3 ∧ Box w (K + 1) #[.int .i64 (-1), .int .i64 (-1), .int .i64 1] 3 ∧ Box w (K + 1 + 1) #[.slice (some ⟨g, o, none⟩) l.length cap] 39 ∧
    Box w (K + 1 + 1 + 1) #[.slice (some ⟨K, 0, none⟩) 3 3, .slice (some ⟨K + 1, 0, none⟩) 3 3, .int .i64 0, .int .i64 0, .slice (some ⟨K + 1 + 1, 0, none⟩) 1 1] 32 ∧ l.length ≤ cap ∧ cap ≤ maxLen
theorem TinyK.q {w : World} {base K g cap : Nat} {l : List InsV} (h : TinyK w base K g cap l) : TinyQ w K g 0 cap l := ⟨CodeAt.of h.1 rfl, h.2.1, h.2.2.1, h.2.2.2.1, h.2.2.2.2.1, h.2.2.2.2.2.2.2.1, h.2.2.2.2.2.2.2.2⟩
theorem TinyQ.below {w w' : World} {K g o cap : Nat} {l : List InsV} (h : TinyQ w K g o cap l) (hb : Below w.heap.size w w') : TinyQ w' K g o cap l :=
  ⟨h.1.below hb, h.2.1.below hb, h.2.2.1.below hb, h.2.2.2.1.below hb, h.2.2.2.2.1.below hb, h.2.2.2.2.2⟩
end Go.Proofs.YtehboglielnjbaaGreatDoor
