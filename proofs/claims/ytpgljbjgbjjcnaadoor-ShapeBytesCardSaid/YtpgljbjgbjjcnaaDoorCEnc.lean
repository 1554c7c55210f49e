/- The contracts of the writer's prog and of Encode. Condition: the table of parts reads as listed. -/
import Derived.Test.YtpgljbjgbjjcnaaDoorCEncW
set_option linter.unusedSimpArgs false
set_option linter.unusedVariables false
namespace Go.Proofs.YtpgljbjgbjjcnaaDoor
open Go.RowKit

set_option maxHeartbeats 400000 in
set_option maxRecDepth 100000 in
theorem wprog_any (vp : Value) (p : List FunV) (g base : Nat) (zs : List Int) (w : World) (B : Nat) (hB : B ≤ base) (hB0 : 0 < base) (hbw : base ≤ w.heap.size) (hW : WS w g base zs) (hT : TabP w) (hp : FunsV w (· < B) vp p) (hfew : ∀ f ∈ p, funFew f) (hroom : zs.length + (encProg p).length ≤ 1073741824) :
    Calls Tryd.prog 43 #[.pointer (some ⟨g, 0, none⟩), .agg #[vp]] w fun e w' => e = .returned (.tuple #[]) ∧ Wrote w g base (zs ++ encProg p) w' := by
  obtain ⟨A, c, rfl, hpc, hpm⟩ := hp.open'
  obtain ⟨n, hn⟩ : ∃ n, p.length = n := ⟨_, rfl⟩
  have HT0 := hide (show encProg p = encL [(n : Int)] ++ p.flatMap encFun by unfold encProg; rw [hn])
  rw [HT0.out, List.length_append] at hroom
  rw [hn] at hp hpc ⊢
  have HP := hide hp; have HN := hide hn; have HT := hide hT; have HW := hide hW; have HX := hide hfew
  have HF := hide (fun k => flatMap_take_le p k encFun)
  have hgw := hW.lt.2
  have hgH : w.heap.size ≠ g := by omega
  clear hp hn hT hW hfew
  have H1 := hide (putLit [(n : Int)] #[.int .i64 (n : Int)] (w.heap.size + 1) (by simp) ((Wrote.refl HW.out).alloc (.cells #[.slice A n c] 24)) rfl (by simp [i64R]; omega) (by simp) (by omega))
  go_enter Tryd.func43, Tryd.ntmps43
  go_wp2_with (go_at_call 73; refine H1.out.mono ?_; rintro e w1 ⟨rfl, hw1, hk1⟩; have hbx : Box w1 w.heap.size #[.slice A n c] 24 := (Box.new w _ _).kept hk1 hgH (by decide); have x0 := (hbx.cell 0 (v := .slice A n c) rfl).1; have x1 := hbx.lt; have HW1 := hide hw1; clear hw1 hk1 hbx)
  obtain ⟨pre, hpre⟩ : ∃ pre, zs ++ encL [(n : Int)] = pre := ⟨_, rfl⟩
  have hpl := congrArg List.length hpre
  rw [List.length_append] at hpl
  rw [hpre] at HW1
  have hroom2 : pre.length + (p.flatMap encFun).length ≤ 1073741824 := by omega
  have HP2 := hide hpre
  clear hpre hpl hroom
  go_loopw [15] (fun i wr => ∃ k : Nat, k ≤ n ∧ i = .int .i64 k ∧ Wrote w g base (pre ++ (p.take k).flatMap encFun) wr) (fun i _ => n - (intOf i).toNat)
  case atStart => exact ⟨0, Nat.zero_le _, rfl, HW1.out.cast (by simp)⟩
  case round =>
    obtain ⟨k, hk, rfl, hwr⟩ := hrel
    have hbs1 := hwr.below.size
    by_cases hlt : k < n
    · obtain ⟨y, hy⟩ : ∃ y, p[k]? = some y := ⟨_, List.getElem?_eq_getElem (by have := HN.out; omega)⟩
      obtain ⟨b, o, Ak, ck, Ab, cb, As, cs, rfl, hbb, ⟨e0, e1, e2, e3, e4⟩, hi⟩ := (HP.out.keep (hwr.up hB) (fun _ h => h)).get hy
      have hbs2 : b < wr.heap.size := by omega
      have hfm := flatMap_take (f := encFun) hy
      have hle := HF.out (k + 1)
      rw [hfm, List.length_append] at hle
      obtain ⟨pre5, hpre5⟩ : ∃ pre5, pre ++ (p.take k).flatMap encFun = pre5 := ⟨_, rfl⟩
      have hpl5 := congrArg List.length hpre5
      simp only [List.length_append] at hpl5
      rw [hpre5] at hwr
      have HF5 := hide (show pre ++ (p.take (k + 1)).flatMap encFun = pre5 ++ encFun y by rw [hfm, ← List.append_assoc, hpre5])
      have hW6 := hwr.alloc (.cells #[.slice Ak y.kinds.length ck, .slice Ab y.base.length cb, .int .i64 y.params, .int .i64 y.result, .slice As y.blocks.length cs] 44)
      have hC := wfun_any _ _ _ y g base pre5 _ B hB hB0 (by have := hW6.below.size; omega) hW6.ws (HT.out.below hW6.below hB0) (hi.keep (fun b o hb => World.cell?_alloc_lt _ _ _ (by show b < _; omega)) (fun _ h => h)) (HX.out y (List.mem_of_getElem? hy)) (by omega)
      generalize y.kinds.length = lk at *
      generalize y.base.length = lb at *
      generalize y.blocks.length = ls at *
      have HC := hide hC
      have HW6 := hide hW6
      clear hC hW6 hy hi hfm hle hpre5 hpl5 hwr
      go_wp2_with (go_at_call 74; refine HC.out.mono ?_; rintro e w7 ⟨rfl, hw7⟩)
      go_roundw
      case rel => exact ⟨k + 1, by omega, by go_num, (HW6.out.trans hw7).cast (by rw [HF5.out])⟩
      case measure => simp [intOf]; omega
    · have hend := hide (hwr.cast (ys := zs ++ encProg p) (by rw [List.take_of_length_le (by have := HN.out; omega), HT0.out, ← HP2.out, List.append_assoc]))
      clear hwr
      go_wp2
      go_end0
      exact ⟨rfl, hend.out⟩

/-- What Encode answers, in memory. -/
def EncA (W : World) (p : List FunV) (e : Ending) (w' : World) : Prop :=
  ∃ A c, e = .returned (.tuple #[.slice A (encR p).1.length c, .int .i64 ((encR p).2 : Int)]) ∧ Sl w' w'.heap.size .u8 A (encR p).1 ∧ (encR p).1.length ≤ c ∧ c ≤ 9223372036854775807 ∧ (encR p).1.length ≤ 2000000 ∧ Below W.heap.size W w'
theorem EncA.no {W w' : World} {p : List FunV} {k : Nat} (h : encR p = ([], k)) (hb : Below W.heap.size W w') : EncA W p (.returned (.tuple #[.slice none 0 0, .int .i64 (k : Int)])) w' :=
  ⟨none, 0, by rw [h]; rfl, by rw [h]; exact Sl.nil _ _ _ _, by rw [h]; exact Nat.le_refl _, by omega, by rw [h]; exact Nat.zero_le _, hb⟩
end Go.Proofs.YtpgljbjgbjjcnaaDoor
