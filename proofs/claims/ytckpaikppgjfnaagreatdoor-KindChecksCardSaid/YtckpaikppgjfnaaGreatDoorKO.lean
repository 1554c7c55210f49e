/- Layer 8, mathematics: what Check answers of four fixed programs of one block. No condition. -/
import Derived.Test.YtckpaikppgjfnaaGreatDoorKN
set_option linter.unusedSimpArgs false
set_option linter.unusedVariables false
namespace Go.Proofs.YtckpaikppgjfnaaGreatDoor
open Go.RowKit

def askL (st : Bool) (f : FunV) (l : List InsV) (s : KSt) : Bool := (List.range l.length).any fun j => match l[j]? with
  | some x => (usesL x).any (fun v => failB st f v (thrW f (l.take j) s))
  | none => false
theorem askL_iff {st : Bool} {f : FunV} {l : List InsV} {s : KSt} : AskAt st f l s ↔ askL st f l s = true := by
  unfold AskAt askL
  rw [List.any_eq_true]
  constructor
  · rintro ⟨j, x, hx, v, hv, hf⟩
    refine ⟨j, List.mem_range.2 (List.getElem?_eq_some_iff.1 hx).1, ?_⟩
    rw [hx]
    exact List.any_eq_true.2 ⟨v, hv, hf⟩
  · rintro ⟨j, -, h⟩
    cases hx : l[j]? with
    | none => rw [hx] at h; cases h
    | some x =>
      rw [hx] at h
      obtain ⟨v, hv, hf⟩ := List.any_eq_true.1 h
      exact ⟨j, x, hx, v, hv, hf⟩
theorem pth_one {f : FunV} (hok : FlowOk f) (h : nxt f 0 = []) {b : Nat} (hp : Pth f 0 (b : Int)) : b = 0 :=
  Pth.ind hok (fun b => b = 0) hp rfl fun x c _ hx hc => by subst hx; rw [h] at hc; cases hc
theorem kAt_one {f : FunV} (hok : FlowOk f) (h : nxt f 0 = []) (k : Bool) (m : Nat) : kAt f 0 k m ↔ kIni f k m := by
  constructor
  · exact (kAt_sol f).zero k m
  · intro hi
    refine ⟨fun _ => kIni f, ⟨fun _ _ h => h, fun b c hb hc => ?_⟩, hi⟩
    rw [pth_one hok h hb, h] at hc
    cases hc
theorem kat_ini {f : FunV} (hk : KOk f) (h : nxt f 0 = []) {s : KSt} (hs : KAt f 0 s) : s = iniW f := by
  rcases hs with ⟨-, h2, h3⟩ | ⟨h1, -⟩
  · exact h2.ext (iniW_good hk) fun k m => (h3 k m).trans ((kAt_one hk.flow h k m).trans (iniW_sem hk k m).symm)
  · exact absurd (Pth.refl _ _) h1
theorem kat_ini' {f : FunV} (hk : KOk f) (h : nxt f 0 = []) : KAt f 0 (iniW f) :=
  .inl ⟨Pth.refl _ _, iniW_good hk, fun k m => (iniW_sem hk k m).trans (kAt_one hk.flow h k m).symm⟩
theorem asked_one {st : Bool} {f : FunV} {l : List InsV} (hk : KOk f) (hb : f.blocks = [l]) (hn : nxt f 0 = []) : Asked st [f] ↔ askL st f l (iniW f) = true := by
  rw [← askL_iff]
  constructor
  · rintro ⟨g, hg, b, l', s, hl, hp, hs, ha⟩
    rw [List.mem_singleton] at hg
    subst hg
    obtain rfl := pth_one hk.flow hn hp
    rw [hb] at hl
    simp at hl
    subst hl
    rwa [kat_ini hk hn hs] at ha
  · intro h
    exact ⟨f, List.mem_singleton.2 rfl, 0, l, iniW f, by rw [hb]; rfl, Pth.refl _ _, kat_ini' hk hn, h⟩
def K0 (l : List InsV) : FunV := ⟨[0, 1, 2], [-1, -1, 1], 0, 0, [l]⟩
def iA : InsV := ⟨10, 1, 0, 0, 0, 2, []⟩
def iD : InsV := ⟨15, 2, 1, 0, 0, 0, []⟩
def iZ : InsV := ⟨7, 1, 0, 0, 0, 0, []⟩
def iL : InsV := ⟨17, 0, 2, 0, 0, 0, []⟩
def iR : InsV := ⟨23, 0, 0, 0, 0, 0, []⟩
def iM : InsV := ⟨2, 2, 1, 0, 0, 0, []⟩
theorem chk_of {l : List InsV} {n : Nat} {m u s : Bool} (h : ChkR [K0 l] n) (h4 : progB4 [K0 l] = true) (hn : nxt (K0 l) 0 = []) (hm : misB [K0 l] = m) (hu : askL false (K0 l) l (iniW (K0 l)) = u) (hs : askL true (K0 l) l (iniW (K0 l)) = s) :
    n = if m = true then 6 else if u = true then 7 else if s = true then 8 else 0 := by
  have hk := kOk_of h4 (K0 l) (List.mem_singleton.2 rfl)
  have e1 := asked_one (st := false) hk (l := l) rfl hn
  have e2 := asked_one (st := true) hk (l := l) rfl hn
  rw [hu] at e1
  rw [hs] at e2
  rcases h with ⟨h, -⟩ | ⟨-, h, rfl⟩ | ⟨-, h, h', rfl⟩ | ⟨-, h, h', h'', rfl⟩ | ⟨-, h, h', h'', rfl⟩
  · rw [h4] at h; cases h
  · rw [hm] at h; simp [h]
  · rw [hm] at h; rw [e1] at h'; simp [h, h']
  · rw [hm] at h; rw [e1] at h'; rw [e2] at h''; simp [h, h', h'']
  · rw [hm] at h; rw [e1] at h'; rw [e2] at h''; simp [h, h', h'']
theorem chk8_ok {n : Nat} (h : ChkR [K0 [iA, iD, iL, iR]] n) : n = 0 :=
  (chk_of h (by kernel_rfl) (by kernel_rfl) (by kernel_rfl : _ = false) (by kernel_rfl : _ = false) (by kernel_rfl : _ = false)).trans (by simp)
theorem chk8_stale {n : Nat} (h : ChkR [K0 [iA, iD, iZ, iL, iR]] n) : n = 8 :=
  (chk_of h (by kernel_rfl) (by kernel_rfl) (by kernel_rfl : _ = false) (by kernel_rfl : _ = false) (by kernel_rfl : _ = true)).trans (by simp)
theorem chk8_unset {n : Nat} (h : ChkR [K0 [iD, iL, iR]] n) : n = 7 :=
  (chk_of h (by kernel_rfl) (by kernel_rfl) (by kernel_rfl : _ = false) (by kernel_rfl : _ = true) rfl).trans (by simp)
theorem chk8_kind {n : Nat} (h : ChkR [K0 [iA, iM, iL, iR]] n) : n = 6 :=
  (chk_of h (by kernel_rfl) (by kernel_rfl) (by kernel_rfl : _ = true) rfl rfl).trans (by simp)
end Go.Proofs.YtckpaikppgjfnaaGreatDoor
