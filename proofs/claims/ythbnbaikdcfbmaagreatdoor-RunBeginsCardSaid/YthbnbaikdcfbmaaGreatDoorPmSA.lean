/- The contracts of shape's within, isValue, Last, and of what strings.ContainsAny calls. No condition but on letters. -/
import Derived.Test.YthbnbaikdcfbmaaGreatDoorPmMB
import Derived.Lib.Bytealg
import Derived.Lib.Walk
import Derived.Deep.Cut
set_option linter.unusedSimpArgs false
set_option linter.unusedVariables false
set_option maxHeartbeats 1000000
set_option maxRecDepth 100000
namespace Go.Proofs.YthbnbaikdcfbmaaGreatDoor
open Go.RowKit
def inB (lo hi n : Int) : Bool := decide (lo <= n) && decide (n <= hi)
theorem jaq (n lo hi : Int) (w : World) : Calls Tryz.prog 92 #[.int .i64 n, .int .i64 lo, .int .i64 hi] w fun e w' => e = .returned (.bool (inB lo hi n)) /\ w = w' := by
 unfold inB
 by_cases h : lo <= n
 ·have hd : decide (lo <= n) = true := by simpa using h
  rw [hd]
  go_enter Tryz.func92, Tryz.ntmps92
  go_wp2
  go_ret
  exact ⟨by simp, rfl⟩
 ·have hd : decide (lo <= n) = false := by simpa using h
  rw [hd]
  go_enter Tryz.func92, Tryz.ntmps92
  go_wp2
  go_ret
  exact ⟨by simp, rfl⟩
def valB (k : Int) : Bool := k == 0 || k == 1
theorem jeq (k : Int) (w : World) : Calls Tryz.prog 116 #[.int .i64 k] w fun e w' => e = .returned (.bool (valB k)) /\ w = w' := by
 unfold valB
 go_enter Tryz.func116, Tryz.ntmps116
 go_wp2
 all_goals
  go_ret
  exact ⟨by simp_all, rfl⟩
def jcb (op : Int) : Bool := op == 21 || (op == 22 || op == 23)
theorem last_any (op : Int) (w : World) : Calls Tryz.prog 168 #[.int .i64 op] w fun e w' => e = .returned (.bool (jcb op)) /\ w = w' := by
 unfold jcb
 go_enter Tryz.func168, Tryz.ntmps168
 go_wp2
 all_goals
  go_ret
  exact ⟨by simp_all [Bool.or_assoc], rfl⟩
theorem jq0 (s : ByteArray) (c : Int) (w : World) :
  Calls Tryz.prog 183 #[.string s, .int .u8 c] w fun e w' => e = .returned (.int .i64 (Lib.indexByte s.data.toList c.toNat.toUInt8)) /\ w = w' := by
 go_enter Tryz.func183, Tryz.ntmps183
 go_wp2
 rw [run_callFunc_extern Tryz.func184 (by kernel_rfl) (by kernel_rfl) (by kernel_rfl) (e := Extern.BytealgIndexByte.indexByte) (by kernel_rfl), Lib.run_indexByteString]
 simp only [Result.andThen]
 rw [Oper.upon_value]
 go_wp2
 go_ret
 exact ⟨rfl, rfl⟩
theorem jo4 (s : ByteArray) (c : Int) (w : World) :
  Calls Tryz.prog 179 #[.string s, .int .u8 c] w fun e w' => e = .returned (.int .i64 (Lib.indexByte s.data.toList c.toNat.toUInt8)) /\ w = w' := by
 go_enter Tryz.func179, Tryz.ntmps179
 go_wp2_with (go_at_call 183; refine (jq0 _ _ _).mono ?_; rintro e w' ⟨rfl, rfl⟩)
 go_ret
 exact ⟨rfl, rfl⟩
theorem jh2 (s : ByteArray) (c : Nat) (w : World) (hc : c < 128) :
  Calls Tryz.prog 173 #[.string s, .int .i32 (c : Int)] w fun e w' => e = .returned (.int .i64 (Lib.indexByte s.data.toList (UInt8.ofNat c))) /\ w = w' := by
 have H := fun W => jo4 s (c : Int) W
 rw [show (c : Int).toNat.toUInt8 = UInt8.ofNat c from rfl] at H
 have HH := hide H
 clear H
 go_enter Tryz.func173, Tryz.ntmps173
 go_wp2_with (go_at_call 179; refine (HH.out _).mono ?_; rintro e w' ⟨rfl, rfl⟩)
 go_ret
 exact ⟨rfl, rfl⟩
theorem jrw (l : List UInt8) (c : UInt8) : decide (0 <= Lib.indexByte l c) = decide (c ∈ l) := by
 induction l with
 | nil => simp [Lib.indexByte]
 | cons b l ih =>
  unfold Lib.indexByte
  by_cases hb : b = c
  ·subst hb; simp
  ·have hbe : (b == c) = false := by simpa using hb
   rw [hbe]
   have hge := Lib.indexByte_ge l c
   by_cases h1 : Lib.indexByte l c = -1
   ·rw [h1] at ih ⊢
    simp at ih ⊢
    exact ⟨fun h => hb h.symm, ih⟩
   ·have h1b : (Lib.indexByte l c == -1) = false := by simpa using h1
    rw [h1b]
    simp only [Bool.false_eq_true, if_false]
    have : (0 <= Lib.indexByte l c) := by omega
    rw [decide_eq_true this] at ih
    have hm : c ∈ l := by simpa using ih.symm
    rw [decide_eq_true (show 0 <= Lib.indexByte l c + 1 by omega), decide_eq_true (show c ∈ b :: l by simp [hm])]
theorem jjs {ls : List Nat} (hl : ∀ c ∈ ls, ja5 c) {c : Nat} (hc : ja5 c) : decide (UInt8.ofNat c ∈ (jaf ls).data.toList) = decide (c ∈ ls) := by
 have e : (jaf ls).data.toList = ls.map UInt8.ofNat := by simp [jaf]
 rw [e, decide_eq_decide, List.mem_map]
 constructor
 ·rintro ⟨d, hd, h⟩
  have h1 := hl d hd
  have : d = c := by
   unfold ja5 at h1 hc
   have := congrArg UInt8.toNat h
   simp [UInt8.toNat_ofNat'] at this
   omega
  exact this ▸ hd
 ·intro h; exact ⟨c, h, rfl⟩
theorem jpy {l : List Nat} (hl : ∀ c ∈ l, ja5 c) {s : ByteArray} (hs : jaf l = s) : s.size = l.length /\ ∀ (k d : Nat), l[k]? = some d -> ∀ hk : k < s.size, (s[k]'hk).toNat = d :=
 ⟨by rw [<- hs, jd4], fun k d hd hk => by subst hs; exact jgj hl hd hk⟩
theorem jkz (ls : List Nat) (c : Nat) (w : World) (hl : ∀ c ∈ ls, ja5 c) (hc : ja5 c) :
  Calls Tryz.prog 157 #[.string (jaf ls), .string (jaf [c])] w fun e w' => ∃ z, e = .returned (.int .i64 z) /\ decide (0 <= z) = decide (c ∈ ls) /\ w = w' := by
 have hc128 : c < 128 := by unfold ja5 at hc; omega
 have H := fun W => jh2 (jaf ls) c W hc128
 have hm : decide (0 <= Lib.indexByte (jaf ls).data.toList (UInt8.ofNat c)) = decide (c ∈ ls) := by rw [jrw, jjs hl hc]
 obtain ⟨t, ht⟩ := zl (jaf [c])
 obtain ⟨hz, hat⟩ := jpy (by simpa using hc) ht
 have hz1 : t.size = 1 := hz
 have hk0 : 0 < t.size := by omega
 have h0 := hat 0 c rfl hk0
 have htn : (t.toList == []) = false := by
  have := jew (l := [c]) (by simp)
  rw [ht] at this
  simpa using this
 rw [ht]
 generalize Lib.indexByte (jaf ls).data.toList (UInt8.ofNat c) = z at *
 have HH := hide H
 have HM := hide hm
 clear H hm hat hz ht hc
 generalize jaf ls = s at *
 go_enter Tryz.func157, Tryz.ntmps157
 go_wp2_with (go_at_call 173; refine (HH.out _).mono ?_; rintro e w' ⟨rfl, rfl⟩)
 go_ret
 exact ⟨z, rfl, HM.out, rfl⟩
def AnyRel (ls cs : List Nat) (w : World) (wr : World) : Prop := ∃ k : Nat, k <= ls.length /\ wr.heap[w.heap.size]? = some (.stringIter (jaf ls) k) /\ Below w.heap.size w wr /\ Hid ((ls.take k).any (fun c => decide (c ∈ cs)) = false)
theorem jky (ls : List Nat) (a b : Nat) (w : World) (hl : ∀ c ∈ ls, ja5 c) (hlen : ls.length <= 3) (ha : ja5 a) (hb : ja5 b) :
  Calls Tryz.prog 157 #[.string (jaf ls), .string (jaf [a, b])] w fun e w' => ∃ z, e = .returned (.int .i64 z) /\ decide (0 <= z) = ls.any (fun c => decide (c ∈ [a, b])) /\ Below w.heap.size w w' := by
 have hlt : ∀ c ∈ [a, b], ja5 c := by intro c hc; simp at hc; rcases hc with rfl | rfl; exact ha; exact hb
 have H := fun (c : Nat) (hc : ja5 c) (W : World) => jh2 (jaf [a, b]) c W (by unfold ja5 at hc; omega)
 have hm : ∀ c, ja5 c -> decide (0 <= Lib.indexByte (jaf [a, b]).data.toList (UInt8.ofNat c)) = decide (c ∈ [a, b]) := fun c hc => by rw [jrw, jjs hlt hc]
 obtain ⟨t, ht⟩ := zl (jaf [a, b])
 obtain ⟨hz, hat⟩ := jpy hlt ht
 have hz2 : t.size = 2 := hz
 have htn : (t.toList == []) = false := by
  have := jew (l := [a, b]) (by simp)
  rw [ht] at this
  simpa using this
 have hsz : (jaf ls).size <= 3 := by rw [jd4]; exact hlen
 rw [ht]
 simp only [ht] at H hm
 have HH := hide H
 have HM := hide hm
 have HL := hide hl
 clear H hm hat hz ht ha hb hlt hl
 go_enter Tryz.func157, Tryz.ntmps157
 go_wp2
 go_loopw [] (fun wr => AnyRel ls [a, b] w wr) (fun wr => ls.length - wr.iterPos w.heap.size)
 case atStart => exact ⟨0, Nat.zero_le _, World.iter_heap w (jaf ls) 0, (Below.refl _ _).alloc (Nat.le_refl _) _, hide (by simp)⟩
 case round =>
  obtain ⟨k, hk, hit, hb, hno⟩ := hrel
  have hpos0 := ji8 hit
  have hlt2 := jrr hit
  by_cases hlt : k < ls.length
  ·obtain ⟨c0, hc0⟩ : ∃ c0, ls[k]? = some c0 := ⟨_, List.getElem?_eq_getElem hlt⟩
   have hlc := HL.out c0 (List.mem_of_getElem? hc0)
   have hnx : ∀ ty, (Instr.next (.pointer (some ⟨w.heap.size, 0, none⟩)) true ty).run Tryz.prog wr = _ := fun ty => jma wr w.heap.size k c0 _ ty hit HL.out hc0
   have hit2 := Lib.iterAt_heap wr w.heap.size (jaf ls) k (k + 1) hit
   have hbw2 := Lib.below_iterAt hb (k := w.heap.size) (Nat.le_refl _) (jaf ls) (k + 1)
   obtain ⟨W1, hW1⟩ := zr (wr.iterAt w.heap.size (jaf ls) (k + 1))
   rw [<- hW1] at hnx hit2 hbw2
   have hC := HH.out c0 hlc
   have hM := HM.out c0 hlc
   generalize Lib.indexByte t.data.toList (UInt8.ofNat c0) = z at *
   have HC := hide hC
   have HIT := hide hit2
   have HBW := hide hbw2
   have HC0 := hide hc0
   have HP0 := hide hpos0
   clear hit hb hit2 hbw2 hC hc0 hpos0 hlt2 hW1
   by_cases hin : c0 ∈ [a, b]
   ·have hz0 : 0 <= z := by rw [decide_eq_true hin] at hM; simpa using hM
    have hv := hide (show ls.any (fun c => decide (c ∈ [a, b])) = true from List.any_eq_true.2 ⟨c0, List.mem_of_getElem? HC0.out, decide_eq_true hin⟩)
    clear hin hM
    go_wp2_with (go_at_call 173; refine (HC.out _).mono ?_; rintro e w' ⟨rfl, rfl⟩)
    go_ret
    exact ⟨k, rfl, by rw [hv.out]; simp, HBW.out⟩
   ·have hz0 : z < 0 := by
     rw [decide_eq_false hin] at hM
     have : ¬ 0 <= z := by simpa using hM
     omega
    have hv := hide (show (ls.take (k + 1)).any (fun c => decide (c ∈ [a, b])) = false by
     rw [List.take_add_one, HC0.out, List.any_append, hno.out]
     simpa using hin)
    clear hin hM
    go_wp2_with (go_at_call 173; refine (HC.out _).mono ?_; rintro e w' ⟨rfl, rfl⟩)
    go_roundw
    case rel => exact ⟨k + 1, by omega, HIT.out, HBW.out, hv⟩
    case measure => rw [ji8 HIT.out, HP0.out]; omega
  ·have hnx : ∀ ty, (Instr.next (.pointer (some ⟨w.heap.size, 0, none⟩)) true ty).run Tryz.prog wr = _ := fun ty => next_end wr w.heap.size k _ ty hit (by omega)
   have hv := hide (show ls.any (fun c => decide (c ∈ [a, b])) = false by have h := hno.out; rwa [List.take_of_length_le (by omega)] at h)
   clear hit hpos0
   go_wp2
   go_ret
   exact ⟨-1, rfl, by rw [hv.out]; rfl, hb⟩
theorem jmo (ls : List Nat) (c : Nat) (w : World) (hl : ∀ c ∈ ls, ja5 c) (hc : ja5 c) :
  Calls Tryz.prog 134 #[.string (jaf ls), .string (jaf [c])] w fun e w' => e = .returned (.bool (decide (c ∈ ls))) /\ w = w' := by
 have H := hide (jkz ls c w hl hc)
 generalize jaf ls = s at *
 generalize jaf [c] = t at *
 generalize decide (c ∈ ls) = b at *
 go_enter Tryz.func134, Tryz.ntmps134
 go_wp2_with (go_at_call 157; refine H.out.mono ?_; rintro e w' ⟨z, rfl, hz, rfl⟩; have HZ := hide hz; clear hz)
 go_ret
 exact ⟨ja1 HZ.out, rfl⟩
theorem jmn (ls : List Nat) (a b : Nat) (w : World) (hl : ∀ c ∈ ls, ja5 c) (hlen : ls.length <= 3) (ha : ja5 a) (hb : ja5 b) :
  Calls Tryz.prog 134 #[.string (jaf ls), .string (jaf [a, b])] w fun e w' => e = .returned (.bool (ls.any (fun c => decide (c ∈ [a, b])))) /\ Below w.heap.size w w' := by
 have H := hide (jky ls a b w hl hlen ha hb)
 generalize jaf ls = s at *
 generalize jaf [a, b] = t at *
 generalize ls.any (fun c => decide (c ∈ [a, b])) = b at *
 go_enter Tryz.func134, Tryz.ntmps134
 go_wp2_with (go_at_call 157; refine H.out.mono ?_; rintro e w' ⟨z, rfl, hz, hb⟩; have HZ := hide hz; clear hz)
 go_ret
 exact ⟨ja1 HZ.out, hb⟩
def hasP (op : Int) (cs : List Nat) : Bool := (jae op).any (fun c => decide (c ∈ cs))
theorem jmi (op : Int) (c : Nat) (w : World) (hT : TabP w) (hop : i64R op) (hc : ja5 c) :
  Calls Tryz.prog 105 #[.int .i64 op, .string (jaf [c])] w fun e w' => e = .returned (.bool (decide (c ∈ jae op))) /\ w = w' := by
 have HP := hide (jgr op w hT hop)
 have H := hide (jmo (jae op) c w (jdg op) hc)
 generalize jaf (jae op) = s at *
 generalize jaf [c] = t at *
 go_enter Tryz.func105, Tryz.ntmps105
 go_wp2_with (first
  | (go_at_call 135; refine HP.out.mono ?_; rintro e w' ⟨rfl, rfl⟩)
  | (go_at_call 134; refine H.out.mono ?_; rintro e w' ⟨rfl, rfl⟩))
 go_ret
 exact ⟨rfl, rfl⟩
theorem has_two (op : Int) (a b : Nat) (w : World) (hT : TabP w) (hop : i64R op) (ha : ja5 a) (hb : ja5 b) :
  Calls Tryz.prog 105 #[.int .i64 op, .string (jaf [a, b])] w fun e w' => e = .returned (.bool (hasP op [a, b])) /\ Below w.heap.size w w' := by
 have HP := hide (jgr op w hT hop)
 have H := hide (jmn (jae op) a b w (jdg op) (ji3 op) ha hb)
 unfold hasP
 generalize (jae op).any (fun c => decide (c ∈ [a, b])) = bb at *
 generalize jaf (jae op) = s at *
 generalize jaf [a, b] = t at *
 go_enter Tryz.func105, Tryz.ntmps105
 go_wp2_with (first
  | (go_at_call 135; refine HP.out.mono ?_; rintro e w' ⟨rfl, rfl⟩)
  | (go_at_call 134; refine H.out.mono ?_; rintro e w' ⟨rfl, hb⟩))
 go_ret
 exact ⟨rfl, hb⟩
def refB (kinds : List Int) (v : Int) : Bool := inB 0 ((kinds.length : Int) - 1) v && decide (kinds[v.toNat]? = some 1)
theorem jjl (kinds : List Int) (v : Int) (A : Option Addr) (c h B : Nat) (w : World) (hv : i64R v) (hc : w.cell? ⟨h, 0, none⟩ = some (.slice A kinds.length c)) (hk : IntsV w (· < B) (.slice A kinds.length c) kinds) :
  Calls Tryz.prog 148 #[.int .i64 v, .pointer (some ⟨h, 0, none⟩)] w fun e w' => e = .returned (.bool (refB kinds v)) /\ w = w' := by
 unfold i64R at hv
 have hl : kinds.length <= 9223372036854775807 := by obtain ⟨_, _, e, h1, h2, -⟩ := hk; omega
 by_cases hin : 0 <= v /\ v <= (kinds.length : Int) - 1
 ·obtain ⟨j, rfl⟩ : ∃ j : Nat, v = j := ⟨v.toNat, by omega⟩
  obtain ⟨y, hy⟩ : ∃ y, kinds[j]? = some y := ⟨_, List.getElem?_eq_getElem (by omega)⟩
  obtain ⟨b, o, rfl, hbb, e0, -⟩ := hk.get hy
  have hb : inB 0 ((kinds.length : Int) - 1) (j : Int) = true := by unfold inB; rw [decide_eq_true hin.1, decide_eq_true hin.2]; rfl
  have hres : refB kinds (j : Int) = (y == 1) := by
   unfold refB
   rw [hb, Int.toNat_natCast, hy, Bool.eq_iff_iff]
   simp
  have HW := hide (fun W => jaq (j : Int) 0 ((kinds.length : Int) - 1) W)
  rw [hb] at HW
  rw [hres]
  have h1 := hin.1
  have h2 : (j : Int) < (kinds.length : Int) := by omega
  clear hb hres hin hk hy
  generalize kinds.length = n at *
  go_enter Tryz.func148, Tryz.ntmps148
  go_wp2_with (go_at_call 92; refine (HW.out _).mono ?_; rintro e w' ⟨rfl, rfl⟩)
  go_ret
  exact ⟨rfl, rfl⟩
 ·have hb : inB 0 ((kinds.length : Int) - 1) v = false := by unfold inB; rw [<- Bool.decide_and, decide_eq_false hin]
  have hres : refB kinds v = false := by unfold refB; rw [hb]; rfl
  have HW := hide (fun W => jaq v 0 ((kinds.length : Int) - 1) W)
  rw [hb] at HW
  rw [hres]
  clear hb hres hin hk
  generalize kinds.length = n at *
  go_enter Tryz.func148, Tryz.ntmps148
  go_wp2_with (go_at_call 92; refine (HW.out _).mono ?_; rintro e w' ⟨rfl, rfl⟩)
  go_ret
  exact ⟨rfl, rfl⟩
def jdd (kinds : List Int) (k b : Int) : Bool := if k = 2 then refB kinds b else valB k && b == -1
theorem jjx (kinds : List Int) (k b : Int) (A : Option Addr) (c h B : Nat) (w : World) (hb : i64R b) (hc : w.cell? ⟨h, 0, none⟩ = some (.slice A kinds.length c)) (hk : IntsV w (· < B) (.slice A kinds.length c) kinds) :
  Calls Tryz.prog 149 #[.int .i64 k, .int .i64 b, .func (.func 148) #[] #[.pointer (some ⟨h, 0, none⟩)]] w fun e w' => e = .returned (.bool (jdd kinds k b)) /\ w = w' := by
 have HR := hide (jjl kinds b A c h B w hb hc hk)
 unfold jdd
 generalize refB kinds b = r at *
 clear hk hc
 by_cases h2 : k = 2
 ·rw [if_pos h2]
  subst h2
  go_enter Tryz.func149, Tryz.ntmps149
  go_wp2_with (go_at_call 148; refine HR.out.mono ?_; rintro e w' ⟨rfl, rfl⟩)
  go_ret
  exact ⟨rfl, rfl⟩
 ·rw [if_neg h2]
  have hb2 : (k == 2) = false := by simpa using h2
  have HV := hide (fun W => jeq k W)
  clear h2
  generalize valB k = vb at *
  go_enter Tryz.func149, Tryz.ntmps149
  go_wp2_with (go_at_call 116; refine (HV.out _).mono ?_; rintro e w' ⟨rfl, rfl⟩)
  all_goals
   go_ret
   exact ⟨by simp_all, rfl⟩
def jgf (f : FunV) : Bool := (decide (f.base.length = f.kinds.length) && decide (f.kinds.length <= 48)) && (f.kinds.zip f.base).all (fun kb => jdd f.kinds kb.1 kb.2)
theorem jlr (vk vb vs : Value) (f : FunV) (w : World) (B : Nat) (hB : B <= w.heap.size) (hi : FunI w (· < B) vk vb vs f) :
  Calls Tryz.prog 114 #[.agg #[vk, vb, .int .i64 f.params, .int .i64 f.result, vs]] w fun e w' => e = .returned (.bool (jgf f)) /\ Below w.heap.size w w' := by
 obtain ⟨hk, hb, hs, -, -⟩ := hi
 obtain ⟨Ak, ck, rfl, hck, hmk⟩ := hk.open'
 obtain ⟨Ab, cb, rfl, hcb, hmb⟩ := hb.open'
 obtain ⟨As, cs, rfl, -, -⟩ := hs.open'
 clear hs
 generalize f.params = fp, f.result = fr, f.blocks.length = fl at *
 unfold jgf
 generalize hkk : f.kinds = kinds at *
 generalize hbb : f.base = base at *
 clear hkk hbb
 have HK := hide hk
 have HB := hide hb
 obtain ⟨n, hn⟩ := zl kinds.length
 obtain ⟨m, hm⟩ := zl base.length
 rw [hn] at hk hck ⊢
 rw [hm] at hb hcb ⊢
 have HN := hide hn; have HM := hide hm
 have HKN := hide hk
 have HBN := hide hb
 clear hk hb hn hm
 by_cases hnm : m = n
 case neg =>
  have hnb : ((m : Int) != (n : Int)) = true := by simp; omega
  rw [decide_eq_false hnm]
  clear hnm
  go_enter Tryz.func114, Tryz.ntmps114
  go_wp2
  go_ret
  exact ⟨by simp, ja4 w _⟩
 subst hnm
 rw [decide_eq_true rfl]
 by_cases h48 : m <= 48
 case neg =>
  have hnb : (48 : Int) < (m : Int) := by omega
  rw [decide_eq_false h48]
  clear h48
  go_enter Tryz.func114, Tryz.ntmps114
  go_wp2
  go_ret
  exact ⟨by simp, ja4 w _⟩
 rw [decide_eq_true h48]
 have hzl : (kinds.zip base).length = m := by rw [List.length_zip, HN.out, HM.out]; omega
 have HZ := hide hzl
 clear hzl
 simp only [Bool.true_and]
 go_enter Tryz.func114, Tryz.ntmps114
 go_wp2_with (fail)
 go_loopw [23] (fun i wr => ∃ k : Nat, k <= m /\ i = .int .i64 k /\ Hid (wr = w.alloc (.cells #[.slice Ak m ck, .slice Ab m cb, .int .i64 fp, .int .i64 fr, .slice As fl cs] 52)) /\ Hid (((kinds.zip base).take k).all (fun kb => jdd kinds kb.1 kb.2) = true)) (fun i _ => m - (intOf i).toNat)
 case atStart => exact ⟨0, Nat.zero_le _, rfl, hide rfl, hide (by simp)⟩
 case round =>
  obtain ⟨k, hk, rfl, hwr, hall⟩ := hrel
  have hbel : Below w.heap.size w wr := by rw [hwr.out]; exact ja4 w _
  have hx := (Box.new w #[.slice Ak m ck, .slice Ab m cb, .int .i64 fp, .int .i64 fr, .slice As fl cs] 52)
  rw [<- hwr.out] at hx
  have c0 := (hx.cell 0 (v := .slice Ak m ck) rfl).1
  have c1 := (hx.cell 1 (v := .slice Ab m cb) rfl).1
  have hgh := hx.lt
  by_cases hlt : k < m
  ·obtain ⟨kb, hkb⟩ : ∃ kb, (kinds.zip base)[k]? = some kb := ⟨_, List.getElem?_eq_getElem (by have := HZ.out; omega)⟩
   obtain ⟨kd, bs⟩ := kb
   have hzz := List.getElem?_zip_eq_some.1 hkb
   have hkw := HKN.out.keep (up hbel hB) (fun _ h => h)
   have hbw := HBN.out.keep (up hbel hB) (fun _ h => h)
   have hS := jjx kinds kd bs Ak ck w.heap.size B wr (by obtain ⟨_, _, _, _, _, hr⟩ := hbw.get hzz.2; exact hr) (by rw [HN.out]; exact c0) (by rw [HN.out]; exact hkw)
   obtain ⟨b3, o3, rfl, hb3, d0, dR⟩ := hkw.get hzz.1
   obtain ⟨b4, o4, rfl, hb4, d1, dR1⟩ := hbw.get hzz.2
   simp only at d0 d1
   have hb3s : b3 < wr.heap.size := by omega
   have hb4s : b4 < wr.heap.size := by omega
   have HKB := hide hkb
   have HBEL := hide hbel
   clear hkb hzz hkw hbw hx hbel
   by_cases hok : jdd kinds kd bs = true
   ·have hnx := hide (jay hall.out HKB.out hok)
    rw [hok] at hS
    have HS := hide hS
    clear hS hok
    go_wp2_with (go_at_call 149; refine HS.out.mono ?_; rintro e w' ⟨rfl, rfl⟩)
    go_roundw
    case rel => exact ⟨k + 1, by omega, by go_num, hwr, hnx⟩
    case measure => simp [intOf]; omega
   ·have hof := Bool.eq_false_iff.2 hok
    have hv := hide (jb1 (p := fun kb => jdd kinds kb.1 kb.2) HKB.out hof)
    rw [hof] at hS
    have HS := hide hS
    clear hS hok hof
    go_wp2_with (go_at_call 149; refine HS.out.mono ?_; rintro e w' ⟨rfl, rfl⟩)
    go_ret
    exact ⟨ja1 hv.out.symm, HBEL.out⟩
  ·have hv := hide (jbx hall.out HZ.out (by omega))
   clear hx
   go_wp2
   go_ret
   exact ⟨ja1 hv.out.symm, hbel⟩
theorem jhi (k : Int) (w : World) : Calls Tryz.prog 150 #[.int .i64 k] w fun e w' => e = .returned (.bool (!valB k)) /\ w = w' := by
 have HV := hide (fun W => jeq k W)
 generalize valB k = b at *
 go_enter Tryz.func150, Tryz.ntmps150
 go_wp2_with (go_at_call 116; refine (HV.out _).mono ?_; rintro e w' ⟨rfl, rfl⟩)
 go_ret
 exact ⟨rfl, rfl⟩
theorem jmf (zs : List Int) (va : Value) (F : Int -> Bool) (w : World) (B : Nat) (hx : IntsV w (· < B) va zs) (hF : ∀ z, i64R z -> Calls Tryz.prog 150 #[.int .i64 z] w fun e w' => e = .returned (.bool (F z)) /\ w = w') :
  Calls Tryz.prog 44 #[va, .func (.func 150) #[] #[]] w fun e w' => ∃ z, e = .returned (.int .i64 z) /\ decide (0 <= z) = zs.any F /\ w = w' := by
 obtain ⟨A, c, rfl, hc, hm⟩ := hx.open'
 obtain ⟨n, hn⟩ := zl zs.length
 rw [hn] at hx hc ⊢
 have HN := hide hn
 have HX := hide hx
 have HF := hide hF
 clear hn hx hF
 go_enter Tryz.func44, Tryz.ntmps44
 go_wp2
 go_loop [8] (fun i => ∃ k : Nat, k <= n /\ i = .int .i64 k /\ Hid ((zs.take k).any F = false)) (fun i => n - (intOf i).toNat)
 case atStart => exact ⟨0, Nat.zero_le _, rfl, hide (by simp)⟩
 case round =>
  obtain ⟨k, hk, rfl, hno⟩ := hrel
  by_cases hlt : k < n
  ·obtain ⟨y, hy⟩ : ∃ y, zs[k]? = some y := ⟨_, List.getElem?_eq_getElem (by have := HN.out; omega)⟩
   obtain ⟨b, o, rfl, hbb, e0, hR⟩ := HX.out.get hy
   have hC := HF.out y hR
   have HY := hide hy
   clear hy
   by_cases hf : F y = true
   ·rw [hf] at hC
    have HC := hide hC
    have hv := hide (show zs.any F = true from List.any_eq_true.2 ⟨y, List.mem_of_getElem? HY.out, hf⟩)
    clear hC hf
    go_wp2_with (go_at_call 150; refine HC.out.mono ?_; rintro e w' ⟨rfl, rfl⟩)
    go_ret
    exact ⟨k, rfl, by rw [hv.out]; simp, rfl⟩
   ·rw [Bool.eq_false_iff.2 hf] at hC
    have HC := hide hC
    have hv := hide (show (zs.take (k + 1)).any F = false by rw [List.take_add_one, HY.out, List.any_append, hno.out]; simpa using hf)
    clear hC hf
    go_wp2_with (go_at_call 150; refine HC.out.mono ?_; rintro e w' ⟨rfl, rfl⟩)
    go_round
    case rel => exact ⟨k + 1, by omega, by go_num, hv⟩
    case measure => simp [intOf]; omega
  ·have hv := hide (show zs.any F = false by have h := hno.out; rwa [List.take_of_length_le (by have := HN.out; omega)] at h)
   go_wp2
   go_ret
   exact ⟨-1, rfl, by rw [hv.out]; rfl, rfl⟩
theorem jlh (zs : List Int) (va : Value) (F : Int -> Bool) (w : World) (B : Nat) (hx : IntsV w (· < B) va zs) (hF : ∀ z, i64R z -> Calls Tryz.prog 150 #[.int .i64 z] w fun e w' => e = .returned (.bool (F z)) /\ w = w') :
  Calls Tryz.prog 26 #[va, .func (.func 150) #[] #[]] w fun e w' => e = .returned (.bool (zs.any F)) /\ w = w' := by
 have H := hide (jmf zs va F w B hx hF)
 obtain ⟨A, c, rfl, -, -⟩ := hx.open'
 generalize zs.any F = b at *
 generalize zs.length = n at *
 clear hx hF
 go_enter Tryz.func26, Tryz.ntmps26
 go_wp2_with (go_at_call 44; refine H.out.mono ?_; rintro e w' ⟨z, rfl, hz, rfl⟩; have HZ := hide hz; clear hz)
 go_ret
 exact ⟨ja1 HZ.out, rfl⟩
theorem jme (zs : List Int) (va : Value) (h : Nat) (F : Int -> Bool) (w : World) (B : Nat) (hx : IntsV w (· < B) va zs) (hF : ∀ z, i64R z -> Calls Tryz.prog 169 #[.int .i64 z, .pointer (some ⟨h, 0, none⟩)] w fun e w' => e = .returned (.bool (F z)) /\ w = w') :
  Calls Tryz.prog 44 #[va, .func (.func 169) #[] #[.pointer (some ⟨h, 0, none⟩)]] w fun e w' => ∃ z, e = .returned (.int .i64 z) /\ decide (0 <= z) = zs.any F /\ w = w' := by
 obtain ⟨A, c, rfl, hc, hm⟩ := hx.open'
 obtain ⟨n, hn⟩ := zl zs.length
 rw [hn] at hx hc ⊢
 have HN := hide hn
 have HX := hide hx
 have HF := hide hF
 clear hn hx hF
 go_enter Tryz.func44, Tryz.ntmps44
 go_wp2
 go_loop [8] (fun i => ∃ k : Nat, k <= n /\ i = .int .i64 k /\ Hid ((zs.take k).any F = false)) (fun i => n - (intOf i).toNat)
 case atStart => exact ⟨0, Nat.zero_le _, rfl, hide (by simp)⟩
 case round =>
  obtain ⟨k, hk, rfl, hno⟩ := hrel
  by_cases hlt : k < n
  ·obtain ⟨y, hy⟩ : ∃ y, zs[k]? = some y := ⟨_, List.getElem?_eq_getElem (by have := HN.out; omega)⟩
   obtain ⟨b, o, rfl, hbb, e0, hR⟩ := HX.out.get hy
   have hC := HF.out y hR
   have HY := hide hy
   clear hy
   by_cases hf : F y = true
   ·rw [hf] at hC
    have HC := hide hC
    have hv := hide (show zs.any F = true from List.any_eq_true.2 ⟨y, List.mem_of_getElem? HY.out, hf⟩)
    clear hC hf
    go_wp2_with (go_at_call 169; refine HC.out.mono ?_; rintro e w' ⟨rfl, rfl⟩)
    go_ret
    exact ⟨k, rfl, by rw [hv.out]; simp, rfl⟩
   ·rw [Bool.eq_false_iff.2 hf] at hC
    have HC := hide hC
    have hv := hide (show (zs.take (k + 1)).any F = false by rw [List.take_add_one, HY.out, List.any_append, hno.out]; simpa using hf)
    clear hC hf
    go_wp2_with (go_at_call 169; refine HC.out.mono ?_; rintro e w' ⟨rfl, rfl⟩)
    go_round
    case rel => exact ⟨k + 1, by omega, by go_num, hv⟩
    case measure => simp [intOf]; omega
  ·have hv := hide (show zs.any F = false by have h := hno.out; rwa [List.take_of_length_le (by have := HN.out; omega)] at h)
   go_wp2
   go_ret
   exact ⟨-1, rfl, by rw [hv.out]; rfl, rfl⟩
theorem jlg (zs : List Int) (va : Value) (h : Nat) (F : Int -> Bool) (w : World) (B : Nat) (hx : IntsV w (· < B) va zs) (hF : ∀ z, i64R z -> Calls Tryz.prog 169 #[.int .i64 z, .pointer (some ⟨h, 0, none⟩)] w fun e w' => e = .returned (.bool (F z)) /\ w = w') :
  Calls Tryz.prog 26 #[va, .func (.func 169) #[] #[.pointer (some ⟨h, 0, none⟩)]] w fun e w' => e = .returned (.bool (zs.any F)) /\ w = w' := by
 have H := hide (jme zs va h F w B hx hF)
 obtain ⟨A, c, rfl, -, -⟩ := hx.open'
 generalize zs.any F = b at *
 generalize zs.length = n at *
 clear hx hF
 go_enter Tryz.func26, Tryz.ntmps26
 go_wp2_with (go_at_call 44; refine H.out.mono ?_; rintro e w' ⟨z, rfl, hz, rfl⟩; have HZ := hide hz; clear hz)
 go_ret
 exact ⟨ja1 HZ.out, rfl⟩
def jdh (f : FunV) : Bool := inB 0 (min 4 (f.kinds.length : Int)) f.params && (f.kinds.take f.params.toNat).all valB
theorem IntsV.takeV {w : World} {S : Nat -> Prop} {A : Option Addr} {n c k : Nat} {zs : List Int} (h : IntsV w S (.slice A n c) zs) (hk : k <= zs.length) : IntsV w S (.slice A k c) (zs.take k) := by
 obtain ⟨A', c', e, h1, h2, h3⟩ := h
 injection e with e1 e2 e3
 subst e1 e3
 have hl : (zs.take k).length = k := by rw [List.length_take]; omega
 refine ⟨A, c, by rw [hl], by omega, h2, fun hp => ?_⟩
 obtain ⟨b, o, e, hb, hc⟩ := h3 (by omega)
 refine ⟨b, o, e, hb, fun j x hj => hc j x ?_⟩
 have hjk : j < k := by have := (List.getElem?_eq_some_iff.1 hj).1; omega
 rw [List.getElem?_take] at hj
 simpa [hjk] using hj
theorem jsw (F : Int -> Bool) (zs : List Int) : (!zs.any (fun z => !F z)) = zs.all F := by
 rw [Bool.eq_iff_iff]; simp
theorem jiu (vk vb vs : Value) (f : FunV) (w : World) (B : Nat) (hB : B <= w.heap.size) (hi : FunI w (· < B) vk vb vs f) :
  Calls Tryz.prog 115 #[.agg #[vk, vb, .int .i64 f.params, .int .i64 f.result, vs]] w fun e w' => e = .returned (.bool (jdh f)) /\ Below w.heap.size w w' := by
 obtain ⟨hk, hb, hs, hp, -⟩ := hi
 obtain ⟨Ak, ck, rfl, hck, hmk⟩ := hk.open'
 obtain ⟨Ab, cb, rfl, -, -⟩ := hb.open'
 obtain ⟨As, cs, rfl, -, -⟩ := hs.open'
 clear hs hb
 unfold jdh
 obtain ⟨n, hn⟩ := zl f.kinds.length
 rw [hn] at hk hck ⊢
 unfold i64R at hp
 generalize f.params = fp, f.result = fr, f.blocks.length = fl, f.base.length = fb at *
 have HW := hide (fun W => jaq fp 0 (min 4 (n : Int)) W)
 by_cases hin : inB 0 (min 4 (n : Int)) fp = true
 case neg =>
  have hf := Bool.eq_false_iff.2 hin
  rw [hf] at HW ⊢
  clear hin hf hk hn
  go_enter Tryz.func115, Tryz.ntmps115
  go_wp2_with (go_at_call 92; refine (HW.out _).mono ?_; rintro e w' ⟨rfl, rfl⟩)
  go_ret
  exact ⟨rfl, ja4 w _⟩
 have hbd : 0 <= fp /\ fp <= (n : Int) := by
  unfold inB at hin
  simp only [Bool.and_eq_true, decide_eq_true_eq] at hin
  omega
 rw [hin] at HW ⊢
 obtain ⟨p, rfl⟩ : ∃ p : Nat, fp = p := ⟨fp.toNat, by omega⟩
 obtain ⟨h0, hpn⟩ := hbd
 have hpc : (p : Int) <= (ck : Int) := by omega
 rw [Int.toNat_natCast]
 have HC := hide (jlh (f.kinds.take p) (.slice Ak p ck) (fun z => !valB z) (w.alloc (.cells #[.slice Ak n ck, .slice Ab fb cb, .int .i64 p, .int .i64 fr, .slice As fl cs] 52)) B ((hk.takeV (k := p) (by omega)).keep (up (ja4 w _) hB) (fun _ h => h)) (fun z _ => jhi z _))
 have hav := jsw valB (f.kinds.take p)
 have HAV := hide hav
 generalize (f.kinds.take p).any (fun z => !valB z) = bb at *
 clear hav hin hk hn
 go_enter Tryz.func115, Tryz.ntmps115
 go_wp2_with (first
  | (go_at_call 92; refine (HW.out _).mono ?_; rintro e w' ⟨rfl, rfl⟩)
  | (go_at_call 26; refine HC.out.mono ?_; rintro e w' ⟨rfl, rfl⟩))
 go_ret
 exact ⟨ja1 (by rw [Bool.true_and]; exact HAV.out), ja4 w _⟩
def jdl (l : List InsV) : Bool := (l.take (l.length - 1)).all (fun x => !jcb x.op) && (l.drop (l.length - 1)).all (fun x => jcb x.op)
theorem ends_hit {l : List InsV} {k : Nat} {x : InsV} (hx : l[k]? = some x) (hl : jcb x.op = true) (hno : (l.take k).any (fun x => jcb x.op) = false) : decide ((k : Int) = (l.length : Int) - 1) = jdl l := by
 have hk := (List.getElem?_eq_some_iff.1 hx).1
 unfold jdl
 by_cases he : k = l.length - 1
 ·rw [decide_eq_true (by omega), <- he]
  have h1 : (l.take k).all (fun x => !jcb x.op) = true := by simpa using hno
  have h2 : l.drop k = [x] := by
   obtain ⟨_, hg⟩ := List.getElem?_eq_some_iff.1 hx
   rw [List.drop_eq_getElem_cons hk, hg, List.drop_of_length_le (by omega)]
  rw [h1, h2]
  simp [hl]
 ·rw [decide_eq_false (by omega)]
  have h1 : (l.take (l.length - 1)).all (fun x => !jcb x.op) = false := by
   rw [List.all_eq_false]
   exact ⟨x, List.mem_of_getElem? (i := k) (by rw [List.getElem?_take]; simp [show k < l.length - 1 by omega, hx]), by simp [hl]⟩
  rw [h1]; rfl
theorem jsd {l : List InsV} (hno : l.any (fun x => jcb x.op) = false) : decide ((-1 : Int) = (l.length : Int) - 1) = jdl l := by
 unfold jdl
 cases l with
 | nil => rfl
 | cons a l =>
  rw [decide_eq_false (by simp)]
  have hne : (a :: l).drop ((a :: l).length - 1) ≠ [] := by
   intro h
   have := congrArg List.length h
   simp at this
  obtain ⟨y, ys, hy⟩ := List.exists_cons_of_ne_nil hne
  have hm : y ∈ a :: l := List.mem_of_mem_drop (by rw [hy]; simp : y ∈ (a :: l).drop ((a :: l).length - 1))
  have hf : jcb y.op = false := by
   rw [List.any_eq_false] at hno
   simpa using hno y hm
  rw [hy]
  simp [hf]
theorem jja (x : InsV) (va : Value) (A : Option Addr) (n c : Nat) (hva : va = .slice A n c) (w : World) : Calls Tryz.prog 167 #[.agg #[.int .i64 x.op, .int .i64 x.d, .int .i64 x.a, .int .i64 x.b, .int .i64 x.n, .int .i64 x.m, va]] w fun e w' => e = .returned (.bool (jcb x.op)) /\ Below w.heap.size w w' := by
 subst hva
 have HV := hide (fun W => last_any x.op W)
 generalize jcb x.op = b at *
 go_enter Tryz.func167, Tryz.ntmps167
 go_wp2_with (go_at_call 168; refine (HV.out _).mono ?_; rintro e w' ⟨rfl, rfl⟩)
 go_ret
 exact ⟨rfl, ja4 w _⟩
theorem jot (va : Value) (xs : List InsV) (w : World) (B : Nat) (hB : B <= w.heap.size) (hx : InssV w (· < B) va xs) :
  Calls Tryz.prog 166 #[va, .func (.func 167) #[] #[]] w fun e w' => ∃ z, e = .returned (.int .i64 z) /\ decide (z = (xs.length : Int) - 1) = jdl xs /\ Below w.heap.size w w' := by
 obtain ⟨A, c, rfl, hc, hm⟩ := hx.open'
 obtain ⟨n, hn⟩ := zl xs.length
 have he1 := fun (k : Nat) (x : InsV) h1 h2 h3 => ends_hit (l := xs) (k := k) (x := x) h1 h2 h3
 have he2 := fun h1 => jsd (l := xs) h1
 rw [hn] at hx hc he1 he2 ⊢
 have HN := hide hn
 have HX := hide hx
 have HE1 := hide he1
 have HE2 := hide he2
 generalize jdl xs = eb at *
 clear hn hx he1 he2
 go_enter Tryz.func166, Tryz.ntmps166
 go_wp2
 go_loopw [8] (fun i wr => ∃ k : Nat, k <= n /\ i = .int .i64 k /\ Below w.heap.size w wr /\ Hid ((xs.take k).any (fun x => jcb x.op) = false)) (fun i _ => n - (intOf i).toNat)
 case atStart => exact ⟨0, Nat.zero_le _, rfl, Below.refl _ _, hide (by simp)⟩
 case round =>
  obtain ⟨k, hk, rfl, hb, hno⟩ := hrel
  have hsz := hb.size
  by_cases hlt : k < n
  ·obtain ⟨x, hxx⟩ : ∃ x, xs[k]? = some x := ⟨_, List.getElem?_eq_getElem (by have := HN.out; omega)⟩
   obtain ⟨b1, o1, A1, c1, rfl, hb1', ⟨e10, e11, e12, e13, e14, e15, e16⟩, -⟩ := (HX.out.keep (up hb hB) (fun _ h => h)).get hxx
   have hs1 : b1 < wr.heap.size := by omega
   have H1 := hide hxx
   have hC := jja x _ A1 x.args.length c1 rfl wr
   generalize x.args.length = l1 at *
   clear hxx
   by_cases hlast : jcb x.op = true
   ·have hz := hide (HE1.out k x H1.out hlast hno.out)
    rw [hlast] at hC
    have HC := hide hC
    clear hC hlast
    go_wp2_with (go_at_call 167; refine HC.out.mono ?_; rintro e w1 ⟨rfl, hb1⟩)
    go_ret
    exact ⟨k, rfl, hz.out, hb.trans (hb1.mono hsz)⟩
   ·have hv := hide (show (xs.take (k + 1)).any (fun x => jcb x.op) = false by rw [List.take_add_one, H1.out, List.any_append, hno.out]; simpa using hlast)
    rw [Bool.eq_false_iff.2 hlast] at hC
    have HC := hide hC
    clear hC hlast
    go_wp2_with (go_at_call 167; refine HC.out.mono ?_; rintro e w1 ⟨rfl, hb1⟩)
    go_roundw
    case rel => exact ⟨k + 1, by omega, by go_num, hb.trans (hb1.mono hsz), hv⟩
    case measure => simp [intOf]; omega
  ·have hz := hide (HE2.out (by have h := hno.out; rwa [List.take_of_length_le (by have := HN.out; omega)] at h))
   go_wp2
   go_ret
   exact ⟨-1, rfl, hz.out, hb⟩
theorem jla (va : Value) (xs : List InsV) (w : World) (B : Nat) (hB : B <= w.heap.size) (hx : InssV w (· < B) va xs) :
  Calls Tryz.prog 151 #[va] w fun e w' => e = .returned (.bool (jdl xs)) /\ Below w.heap.size w w' := by
 have H := hide (jot va xs w B hB hx)
 obtain ⟨A, c, rfl, hc, hm⟩ := hx.open'
 generalize jdl xs = eb at *
 generalize xs.length = n at *
 clear hx
 go_enter Tryz.func151, Tryz.ntmps151
 go_wp2_with (go_at_call 166; refine H.out.mono ?_; rintro e w' ⟨z, rfl, hz, hb⟩; have HZ := hide hz; clear hz)
 go_ret
 exact ⟨ja1 (by rw [<- HZ.out, Bool.eq_iff_iff]; simp), hb⟩
def jbw (b : List InsV) : Bool := inB 1 40 (b.length : Int) && jdl b
def jdm (bs : List (List InsV)) : Bool := inB 1 40 (bs.length : Int) && bs.all jbw
theorem jjc (vs : Value) (bs : List (List InsV)) (w : World) (B : Nat) (hB : B <= w.heap.size) (hx : BlksV w (· < B) vs bs) :
  Calls Tryz.prog 117 #[vs] w fun e w' => e = .returned (.bool (jdm bs)) /\ Below w.heap.size w w' := by
 obtain ⟨A, c, rfl, hc, hm⟩ := hx.open'
 obtain ⟨n, hn⟩ := zl bs.length
 unfold jdm
 rw [hn] at hx hc ⊢
 have HN := hide hn
 have HX := hide hx
 have HW := hide (fun W => jaq (n : Int) 1 40 W)
 clear hn hx
 by_cases hin : inB 1 40 (n : Int) = true
 case neg =>
  rw [Bool.eq_false_iff.2 hin] at HW ⊢
  clear hin
  go_enter Tryz.func117, Tryz.ntmps117
  go_wp2_with (go_at_call 92; refine (HW.out _).mono ?_; rintro e w' ⟨rfl, rfl⟩)
  go_ret
  exact ⟨rfl, Below.refl _ _⟩
 rw [hin] at HW ⊢
 simp only [Bool.true_and]
 have hn40 : n <= 40 := by unfold inB at hin; simp only [Bool.and_eq_true, decide_eq_true_eq] at hin; omega
 clear hin
 go_enter Tryz.func117, Tryz.ntmps117
 go_wp2_with (go_at_call 92; refine (HW.out _).mono ?_; rintro e w' ⟨rfl, rfl⟩)
 clear HW
 go_loopw [11] (fun i wr => ∃ k : Nat, k <= n /\ i = .int .i64 k /\ Below w.heap.size w wr /\ Hid ((bs.take k).all jbw = true)) (fun i _ => n - (intOf i).toNat)
 case atStart => exact ⟨0, Nat.zero_le _, rfl, Below.refl _ _, hide (by simp)⟩
 case round =>
  obtain ⟨k, hk, rfl, hb, hall⟩ := hrel
  have hsz := hb.size
  by_cases hlt : k < n
  ·obtain ⟨x, hxx⟩ : ∃ x, bs[k]? = some x := ⟨_, List.getElem?_eq_getElem (by have := HN.out; omega)⟩
   obtain ⟨b1, o1, A1, c1, rfl, hb1', f0, hx1⟩ := (HX.out.keep (up hb hB) (fun _ h => h)).get hxx
   have hs1 : b1 < wr.heap.size := by omega
   have H1 := hide hxx
   have hC := fun (W : World) (hW : Below wr.heap.size wr W) => jla (.slice A1 x.length c1) x W B (by have := hW.size; omega) (hx1.keep (up hW (by omega)) (fun _ h => h))
   have hW2 := fun W => jaq (x.length : Int) 1 40 W
   obtain ⟨m, hm2⟩ := zl x.length
   have hbx : jbw x = (inB 1 40 (m : Int) && jdl x) := by unfold jbw; rw [hm2]
   rw [hm2] at f0 hC hW2
   have HBX := hide hbx
   clear hxx hx1 hm2 hbx
   generalize jdl x = eb at *
   generalize inB 1 40 (m : Int) = ib at *
   cases ib with
   | false =>
    have hv := hide (jb1 (p := jbw) H1.out (by rw [HBX.out]; rfl))
    have HW2 := hide hW2
    clear hW2 hC
    go_wp2_with (go_at_call 92; refine (HW2.out _).mono ?_; rintro e w' ⟨rfl, rfl⟩)
    go_ret
    exact ⟨ja1 hv.out.symm, hb.alloc hsz _⟩
   | true =>
    have HW2 := hide hW2
    cases eb with
    | false =>
     have hv := hide (jb1 (p := jbw) H1.out (by rw [HBX.out]; rfl))
     have HC := hide hC
     clear hW2 hC
     go_wp2_with (first
      | (go_at_call 92; refine (HW2.out _).mono ?_; rintro e w' ⟨rfl, rfl⟩)
      | (go_at_call 151; refine (HC.out _ (ja4 wr _)).mono ?_; rintro e w1 ⟨rfl, hb1⟩))
     go_ret
     exact ⟨ja1 hv.out.symm, (hb.alloc hsz _).trans (hb1.mono (by simp; omega))⟩
    | true =>
     have hv := hide (jay hall.out H1.out (by rw [HBX.out]; rfl))
     have HC := hide hC
     clear hW2 hC
     go_wp2_with (first
      | (go_at_call 92; refine (HW2.out _).mono ?_; rintro e w' ⟨rfl, rfl⟩)
      | (go_at_call 151; refine (HC.out _ (ja4 wr _)).mono ?_; rintro e w1 ⟨rfl, hb1⟩))
     go_roundw
     case rel => exact ⟨k + 1, by omega, by go_num, (hb.alloc hsz _).trans (hb1.mono (by simp; omega)), hv⟩
     case measure => simp [intOf]; omega
  ·have hv := hide (jbx hall.out HN.out (by omega))
   go_wp2
   go_ret
   exact ⟨ja1 hv.out.symm, hb⟩
def jd9 (f : FunV) : Bool := jgf f && (jdh f && (valB f.result && jdm f.blocks))
theorem jq2 (vk vb vs : Value) (f : FunV) (w : World) (B : Nat) (hB : B <= w.heap.size) (hi : FunI w (· < B) vk vb vs f) :
  Calls Tryz.prog 94 #[.agg #[vk, vb, .int .i64 f.params, .int .i64 f.result, vs]] w fun e w' => e = .returned (.bool (jd9 f)) /\ Below w.heap.size w w' := by
 have hV := fun (W : World) (hW : Below w.heap.size w W) => jlr vk vb vs f W B (by have := hW.size; omega) (hi.keep (up hW hB) (fun _ h => h))
 have hP := fun (W : World) (hW : Below w.heap.size w W) => jiu vk vb vs f W B (by have := hW.size; omega) (hi.keep (up hW hB) (fun _ h => h))
 have hBk := fun (W : World) (hW : Below w.heap.size w W) => jjc vs f.blocks W B (by have := hW.size; omega) (hi.2.2.1.keep (up hW hB) (fun _ h => h))
 have hR := fun W => jeq f.result W
 obtain ⟨hk, hb, hs, -, -⟩ := hi
 obtain ⟨Ak, ck, rfl, -, -⟩ := hk.open'
 obtain ⟨Ab, cb, rfl, -, -⟩ := hb.open'
 obtain ⟨As, cs, rfl, -, -⟩ := hs.open'
 unfold jd9
 generalize jgf f = b1 at *
 generalize jdh f = b2 at *
 generalize valB f.result = b3 at *
 generalize jdm f.blocks = b4 at *
 generalize f.params = fp, f.result = fr, f.blocks.length = fl, f.base.length = fb, f.kinds.length = fk at *
 have HV := hide hV; have HP := hide hP; have HBk := hide hBk; have HR := hide hR
 clear hV hP hBk hR hk hb hs
 go_enter Tryz.func94, Tryz.ntmps94
 go_upto_region 1 with (fail)
 obtain ⟨w1, hw1⟩ := zr (w.alloc (.cells #[.slice Ak fk ck, .slice Ab fb cb, .int .i64 fp, .int .i64 fr, .slice As fl cs] 52))
 have HBX := zx1 hw1 rfl
 have HB1 := zb1 hw1
 rw [<- hw1]
 clear hw1
 have c0 := (HBX.out.cell 0 (v := .slice Ak fk ck) rfl).1
 have c1 := (HBX.out.cell 1 (v := .slice Ab fb cb) rfl).1
 have c2 := (HBX.out.cell 2 (v := .int .i64 fp) rfl).1
 have c3 := (HBX.out.cell 3 (v := .int .i64 fr) rfl).1
 have c4 := (HBX.out.cell 4 (v := .slice As fl cs) rfl).1
 have hl1 := HBX.out.lt
 cases b1 with
 | false =>
  go_wp2_with (go_at_call 114; refine (HV.out w1 HB1.out).mono ?_; rintro e w2 ⟨rfl, hb2⟩; have HB2 := hide (HB1.out.trans (hb2.mono HB1.out.size)); clear hb2)
  go_ret
  exact ⟨rfl, HB2.out⟩
 | true =>
  go_wp2_with (first
   | (go_at_call 117; refine (HBk.out w3 HB3.out).mono ?_; rintro e w4 ⟨rfl, hb4⟩; have HB4 := hide (HB3.out.trans (hb4.mono HB3.out.size)); clear hb4)
   | (go_at_call 116; refine (HR.out _).mono ?_; rintro e w' ⟨rfl, rfl⟩)
   | (go_at_call 115; refine (HP.out w2 HB2.out).mono ?_; rintro e w3 ⟨rfl, hb3⟩; have hx3 := HX2.out.below hb3; have f3 := (hx3.cell 3 (v := .int .i64 fr) rfl).1; have f4 := (hx3.cell 4 (v := .slice As fl cs) rfl).1; have hl3 := hx3.lt; have HB3 := hide (HB2.out.trans (hb3.mono HB2.out.size)); clear hb3 hx3 e0 e1 e2 e3 e4)
   | (go_at_call 114; refine (HV.out w1 HB1.out).mono ?_; rintro e w2 ⟨rfl, hb2⟩; have hx2 := HBX.out.below hb2; have e0 := (hx2.cell 0 (v := .slice Ak fk ck) rfl).1; have e1 := (hx2.cell 1 (v := .slice Ab fb cb) rfl).1; have e2 := (hx2.cell 2 (v := .int .i64 fp) rfl).1; have e3 := (hx2.cell 3 (v := .int .i64 fr) rfl).1; have e4 := (hx2.cell 4 (v := .slice As fl cs) rfl).1; have hl2 := hx2.lt; have HX2 := hide hx2; have HB2 := hide (HB1.out.trans (hb2.mono HB1.out.size)); clear hb2 hx2 c0 c1 c2 c3 c4))
  all_goals
   go_ret
   refine ⟨by simp_all, ?_⟩
   first
    | exact HB4.out
    | exact HB3.out
    | exact HB2.out
def ScopeP (w : World) (B hf hp : Nat) (p : List FunV) (f : FunV) : Prop :=
 ∃ Ak ck As cs A c, w.cell? ⟨hf, 0, none⟩ = some (.slice Ak f.kinds.length ck) /\ w.cell? ⟨hf, 4, none⟩ = some (.slice As f.blocks.length cs) /\ w.cell? ⟨hp, 0, none⟩ = some (.slice A p.length c) /\
  FunsV w (· < B) (.slice A p.length c) p /\ (hf < w.heap.size /\ hp < w.heap.size /\ B <= w.heap.size) /\ f.kinds.length <= 9223372036854775807 /\ f.blocks.length <= 9223372036854775807
theorem ScopeP.below {w w1 : World} {B hf hp : Nat} {p : List FunV} {f : FunV} (h : ScopeP w B hf hp p f) (hb : Below w.heap.size w w1) : ScopeP w1 B hf hp p f := by
 obtain ⟨Ak, ck, As, cs, A, c, h1, h2, h3, h4, ⟨h5, h6, h7⟩, h8⟩ := h
 have hs := hb.size
 exact ⟨Ak, ck, As, cs, A, c, (hb.cell (p := ⟨hf, 0, none⟩) h5).trans h1, (hb.cell (p := ⟨hf, 4, none⟩) h5).trans h2, (hb.cell (p := ⟨hp, 0, none⟩) h6).trans h3, h4.keep (up hb h7) (fun _ h => h), ⟨by omega, by omega, by omega⟩, h8⟩
def jbt (f : FunV) (v : Int) : Bool := inB 0 ((f.kinds.length : Int) - 1) v
def jcg (f : FunV) (v : Int) : Bool := inB 1 ((f.blocks.length : Int) - 1) v
def jbk (p : List FunV) (g a : Int) : Bool := inB 0 ((p.length : Int) - 1) g && decide ((p[g.toNat]?).map FunV.params = some a)
theorem jfv (v : Int) (w : World) (B hf hp : Nat) (p : List FunV) (f : FunV) (h : ScopeP w B hf hp p f) :
  Calls Tryz.prog 118 #[.int .i64 v, .pointer (some ⟨hf, 0, none⟩)] w fun e w' => e = .returned (.bool (jbt f v)) /\ w = w' := by
 obtain ⟨Ak, ck, As, cs, A, c, h1, h2, h3, h4, ⟨h5, h6, h7⟩, h8, h9⟩ := h
 unfold jbt
 have HW := hide (fun W => jaq v 0 ((f.kinds.length : Int) - 1) W)
 generalize f.kinds.length = n at *
 generalize inB 0 ((n : Int) - 1) v = b at *
 clear h2 h3 h4
 go_enter Tryz.func118, Tryz.ntmps118
 go_wp2_with (go_at_call 92; refine (HW.out _).mono ?_; rintro e w' ⟨rfl, rfl⟩)
 go_ret
 exact ⟨rfl, rfl⟩
theorem jfw (v : Int) (w : World) (B hf hp : Nat) (p : List FunV) (f : FunV) (h : ScopeP w B hf hp p f) :
  Calls Tryz.prog 119 #[.int .i64 v, .pointer (some ⟨hf, 0, none⟩)] w fun e w' => e = .returned (.bool (jcg f v)) /\ w = w' := by
 obtain ⟨Ak, ck, As, cs, A, c, h1, h2, h3, h4, ⟨h5, h6, h7⟩, h8, h9⟩ := h
 unfold jcg
 have HW := hide (fun W => jaq v 1 ((f.blocks.length : Int) - 1) W)
 generalize f.blocks.length = n at *
 generalize inB 1 ((n : Int) - 1) v = b at *
 clear h1 h3 h4
 go_enter Tryz.func119, Tryz.ntmps119
 go_wp2_with (go_at_call 92; refine (HW.out _).mono ?_; rintro e w' ⟨rfl, rfl⟩)
 go_ret
 exact ⟨rfl, rfl⟩
theorem jjw (g a : Int) (w : World) (B hf hp : Nat) (p : List FunV) (f : FunV) (h : ScopeP w B hf hp p f) (hg : i64R g) :
  Calls Tryz.prog 120 #[.int .i64 g, .int .i64 a, .pointer (some ⟨hp, 0, none⟩)] w fun e w' => e = .returned (.bool (jbk p g a)) /\ w = w' := by
 obtain ⟨Ak, ck, As, cs, A, c, h1, h2, h3, h4, ⟨h5, h6, h7⟩, h8, h9⟩ := h
 clear h1 h2
 unfold jbk
 unfold i64R at hg
 have hl : p.length <= 9223372036854775807 := by obtain ⟨_, _, e, q1, q2, -⟩ := h4; omega
 have HW := hide (fun W => jaq g 0 ((p.length : Int) - 1) W)
 by_cases hin : 0 <= g /\ g <= (p.length : Int) - 1
 ·obtain ⟨j, rfl⟩ : ∃ j : Nat, g = j := ⟨g.toNat, by omega⟩
  obtain ⟨y, hy⟩ : ∃ y, p[j]? = some y := ⟨_, List.getElem?_eq_getElem (by omega)⟩
  obtain ⟨b, o, Ak, ck, Ab, cb, As, cs, rfl, hbb, ⟨e0, e1, e2, e3, e4⟩, hi⟩ := h4.get hy
  have hb : inB 0 ((p.length : Int) - 1) (j : Int) = true := by unfold inB; rw [decide_eq_true hin.1, decide_eq_true hin.2]; rfl
  rw [hb] at HW
  have hres : (inB 0 ((p.length : Int) - 1) (j : Int) && decide (Option.map FunV.params p[((j : Int)).toNat]? = some a)) = (y.params == a) := by
   rw [hb, Int.toNat_natCast, hy, Bool.eq_iff_iff]
   simp
  rw [hres]
  have q1 := hin.1
  have q2 : (j : Int) < (p.length : Int) := by omega
  have hbs : b < w.heap.size := by omega
  clear hres hb hin h4 hy hi e0 e1 e3 e4
  generalize p.length = n at *
  generalize y.params = yp at *
  go_enter Tryz.func120, Tryz.ntmps120
  go_wp2_with (go_at_call 92; refine (HW.out _).mono ?_; rintro e w' ⟨rfl, rfl⟩)
  go_ret
  exact ⟨rfl, rfl⟩
 ·have hb : inB 0 ((p.length : Int) - 1) g = false := by unfold inB; rw [<- Bool.decide_and, decide_eq_false hin]
  rw [hb] at HW ⊢
  clear hb hin h4
  generalize p.length = n at *
  go_enter Tryz.func120, Tryz.ntmps120
  go_wp2_with (go_at_call 92; refine (HW.out _).mono ?_; rintro e w' ⟨rfl, rfl⟩)
  go_ret
  exact ⟨by simp, rfl⟩
def jbs (hf hp : Nat) : Value := .agg #[.func (.func 118) #[] #[.pointer (some ⟨hf, 0, none⟩)], .func (.func 119) #[] #[.pointer (some ⟨hf, 0, none⟩)], .func (.func 120) #[] #[.pointer (some ⟨hp, 0, none⟩)]]
theorem jlw (vp : Value) (p : List FunV) (k : Nat) (f : FunV) (w : World) (B : Nat) (hB : B <= w.heap.size) (hp : FunsV w (· < B) vp p) (hf : p[k]? = some f) :
  Calls Tryz.prog 95 #[.agg #[vp], .int .i64 (k : Int)] w fun e w' => ∃ hf hp, e = .returned (jbs hf hp) /\ ScopeP w' B hf hp p f /\ Below w.heap.size w w' := by
 have hkl : k < p.length := (List.getElem?_eq_some_iff.1 hf).1
 have HP := hide hp
 obtain ⟨A, c, rfl, hc, hm⟩ := hp.open'
 obtain ⟨b, o, Ak, ck, Ab, cb, As, cs, rfl, hbb, ⟨e0, e1, e2, e3, e4⟩, hi⟩ := hp.get hf
 have hbs : b < w.heap.size := by omega
 have q1 : (0 : Int) <= (k : Int) := by omega
 have q2 : (k : Int) < (p.length : Int) := by omega
 have hl1 : f.kinds.length <= 9223372036854775807 := by obtain ⟨_, _, e, q1, q2, -⟩ := hi.1; omega
 have hl2 : f.blocks.length <= 9223372036854775807 := by obtain ⟨_, _, e, q1, q2, -⟩ := hi.2.2.1; omega
 clear hi hp hf
 generalize hn : p.length = n at *
 generalize f.base.length = lb, f.params = fp, f.result = fr at *
 generalize hlk : f.kinds.length = lk at *
 generalize hls : f.blocks.length = ls at *
 have HN := hide hn
 have HLK := hide hlk
 have HLS := hide hls
 clear hn hlk hls
 go_enter Tryz.func95, Tryz.ntmps95
 go_wp2
 refine bodyPost_ret (v := jbs (w.heap.size + 1 + 1) w.heap.size) (by simp [jbs, results, Tryz.results95, go_sem]) rfl ⟨_, _, rfl, ?_, ?_⟩
 ·have hb3 : Below w.heap.size w (((w.alloc (.cells #[.slice (some ⟨b, o, none⟩) n c] 24)).alloc (.cells #[.func (.func 118) #[] #[.pointer (some ⟨w.heap.size + 1 + 1, 0, none⟩)], .func (.func 119) #[] #[.pointer (some ⟨w.heap.size + 1 + 1, 0, none⟩)], .func (.func 120) #[] #[.pointer (some ⟨w.heap.size, 0, none⟩)]] 150)).alloc (.cells #[.slice Ak lk ck, .slice Ab lb cb, .int .i64 fp, .int .i64 fr, .slice As ls cs] 52)) :=
   (jbm w _ _).alloc (by simp; omega) _
  have hx := Box.new ((w.alloc (.cells #[.slice (some ⟨b, o, none⟩) n c] 24)).alloc (.cells #[.func (.func 118) #[] #[.pointer (some ⟨w.heap.size + 1 + 1, 0, none⟩)], .func (.func 119) #[] #[.pointer (some ⟨w.heap.size + 1 + 1, 0, none⟩)], .func (.func 120) #[] #[.pointer (some ⟨w.heap.size, 0, none⟩)]] 150)) #[.slice Ak lk ck, .slice Ab lb cb, .int .i64 fp, .int .i64 fr, .slice As ls cs] 52
  have hy := ((Box.new w #[.slice (some ⟨b, o, none⟩) n c] 24).alloc (.cells #[.func (.func 118) #[] #[.pointer (some ⟨w.heap.size + 1 + 1, 0, none⟩)], .func (.func 119) #[] #[.pointer (some ⟨w.heap.size + 1 + 1, 0, none⟩)], .func (.func 120) #[] #[.pointer (some ⟨w.heap.size, 0, none⟩)]] 150)).alloc (.cells #[.slice Ak lk ck, .slice Ab lb cb, .int .i64 fp, .int .i64 fr, .slice As ls cs] 52)
  rw [World.size_alloc, World.size_alloc] at hx
  refine ⟨Ak, ck, As, cs, some ⟨b, o, none⟩, c, ?_, ?_, ?_, ?_, by simp; omega, by rw [HLK.out]; omega, by rw [HLS.out]; omega⟩
  ·rw [HLK.out]; exact (hx.cell 0 (v := .slice Ak lk ck) rfl).1
  ·rw [HLS.out]; exact (hx.cell 4 (v := .slice As ls cs) rfl).1
  ·rw [HN.out]; exact (hy.cell 0 (v := .slice (some ⟨b, o, none⟩) n c) rfl).1
  rw [HN.out]
  exact HP.out.keep (up hb3 hB) (fun _ h => h)
 ·exact (jbm w _ _).alloc (by simp; omega) _
end Go.Proofs.YthbnbaikdcfbmaaGreatDoor
