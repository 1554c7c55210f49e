/- The table of parts, the letters of an instruction, and the contracts of Parts, isOp, isKind, baseMay, allPut, field. Condition: the table reads as listed. -/
import Derived.Test.YtpggjolbohffjaaDoorCLim3
import Derived.Lib.OthersKept
set_option linter.unusedSimpArgs false
set_option linter.unusedVariables false
namespace Go.Proofs.YtpggjolbohffjaaDoor
open Go.RowKit

/-- A block of cells, known whole. -/
def Box (w : World) (h : Nat) (cs : Array Value) (T : TypeId) : Prop := w.heap[h]? = some (.cells cs T (0, 0))
section
variable {w w' : World} {h : Nat} {cs : Array Value} {T : TypeId}
theorem Box.new (w : World) (cs : Array Value) (T : TypeId) : Box (w.alloc (.cells cs T)) w.heap.size cs T := heap_alloc_new w _
theorem Box.lt (b : Box w h cs T) : h < w.heap.size := (Array.getElem?_eq_some_iff.1 b).1
theorem Box.alloc (b : Box w h cs T) (o : Obj) : Box (w.alloc o) h cs T := (Below.heap_alloc _ _ _ b.lt).trans b
theorem Box.below (b : Box w h cs T) (hb : Below w.heap.size w w') : Box w' h cs T := (hb.block h b.lt).trans b
theorem Box.belowB {B : Nat} (b : Box w h cs T) (hb : Below B w w') (hB : h < B) : Box w' h cs T := (hb.block h hB).trans b
theorem Box.cell (b : Box w h cs T) (j : Nat) {v : Value} (hv : cs[j]? = some v) : w.cell? ⟨h, j, none⟩ = some v ∧ w.frozen? ⟨h, j, none⟩ = false := by
  constructor
  · rw [cell_of_row w h j cs T (0, 0) b]; exact hv
  · simp [World.frozen?, Box] at *; simp [b]
theorem Box.set (b : Box w h cs T) (j : Nat) (v : Value) : Box (w.setCell ⟨h, j, none⟩ v) h (cs.setIfInBounds j v) T := heap_setCell_same w h j cs T v b
theorem Box.other (b : Box w h cs T) {g j : Nat} {v : Value} (hg : h ≠ g) : Box (w.setCell ⟨g, j, none⟩ v) h cs T := (heap_setCell_other w ⟨g, j, none⟩ h v hg).trans b
theorem Box.iter (b : Box w h cs T) {k : Nat} {s : ByteArray} {p : Nat} (hk : h ≠ k) : Box (w.iterAt k s p) h cs T := (Lib.iterAt_other w k h s p hk).trans b
theorem Box.kept {e : TypeId} {g : Nat} (b : Box w h cs T) (hk : Lib.OthersKept e (some g) w w') (hg : h ≠ g) (hT : T ≠ e) : Box w' h cs T :=
  hk h _ b (fun x => hg (Option.some.inj x)) (fun _ _ x => hT (by injection x))
end

/-- The letters of each operation. -/
def partsT : List (List Nat) := [[], [68, 110], [68, 65], [68, 65, 66], [68, 65, 66], [68, 65, 66], [68, 65, 66], [68], [68, 65], [68, 65, 66], [68, 78, 77], [68, 65, 78], [65, 78, 66], [68, 65, 78], [65, 78, 66], [68, 65, 78], [68, 65, 110], [68, 65], [65, 66], [68, 78, 76], [65], [78], [65, 78, 77], [65]]
def partsN (op : Int) : List Nat := if op < 0 then [] else partsT.getD op.toNat []
def strOf (l : List Nat) : ByteArray := ⟨(l.map UInt8.ofNat).toArray⟩
def TabP (w : World) : Prop := 0 < w.heap.size ∧ ∀ j, j < 24 → w.cell? ⟨0, j, none⟩ = some (.string (strOf (partsT.getD j [])))
theorem TabP.below {w w' : World} {B : Nat} (h : TabP w) (hb : Below B w w') (hB : 0 < B) : TabP w' :=
  ⟨Nat.lt_of_lt_of_le h.1 hb.size, fun j hj => (hb.cell (p := ⟨0, j, none⟩) hB).trans (h.2 j hj)⟩
def isLetter (c : Nat) : Prop := c = 68 ∨ c = 65 ∨ c = 66 ∨ c = 78 ∨ c = 77 ∨ c = 110 ∨ c = 76
theorem partsT_letter : ∀ l ∈ partsT, ∀ c ∈ l, isLetter c := by
  unfold isLetter; decide
theorem partsN_letter (op : Int) : ∀ c ∈ partsN op, isLetter c := by
  unfold partsN
  split
  · simp
  · by_cases h : op.toNat < partsT.length
    · exact partsT_letter _ (by rw [List.getD, List.getElem?_eq_getElem h]; exact List.getElem_mem h)
    · rw [List.getD, List.getElem?_eq_none (by omega)]; simp
theorem partsN_len (op : Int) : (partsN op).length ≤ 3 := by
  unfold partsN
  split
  · simp
  · by_cases h : op.toNat < partsT.length
    · rw [List.getD, List.getElem?_eq_getElem h]
      have : ∀ l ∈ partsT, l.length ≤ 3 := by decide
      exact this _ (List.getElem_mem h)
    · rw [List.getD, List.getElem?_eq_none (by omega)]; simp
theorem strOf_size (l : List Nat) : (strOf l).size = l.length := by simp [strOf, ByteArray.size]
theorem strOf_get {l : List Nat} (hl : ∀ c ∈ l, isLetter c) {k c : Nat} (h : l[k]? = some c) (hk : k < (strOf l).size) : ((strOf l)[k]'hk).toNat = c := by
  have hc := hl c (List.mem_of_getElem? h)
  obtain ⟨hk', rfl⟩ := List.getElem?_eq_some_iff.1 h
  show ((l.map UInt8.ofNat).toArray[k]'(by simpa using hk')).toNat = l[k]
  simp only [List.getElem_toArray, List.getElem_map]
  have : l[k] < 256 := by unfold isLetter at hc; omega
  simp [UInt8.toNat_ofNat']
  omega
theorem next_letter {P : Program} (w : World) (h k c : Nat) (l : List Nat) (ty : TypeId) (hit : w.heap[h]? = some (.stringIter (strOf l) k)) (hl : ∀ c ∈ l, isLetter c) (hc : l[k]? = some c) :
    (Instr.next (.pointer (some ⟨h, 0, none⟩)) true ty).run P w = .ok (.tuple #[.bool true, .int .i64 k, .int .i32 (c : Int)]) (w.iterAt h (strOf l) (k + 1)) := by
  have hk : k < (strOf l).size := by rw [strOf_size]; exact (List.getElem?_eq_some_iff.1 hc).1
  have e := strOf_get hl hc hk
  have hlt : c < 128 := by have := hl c (List.mem_of_getElem? hc); unfold isLetter at this; omega
  rw [Lib.run_next_ascii_at w h _ k ty hit hk (by omega), e]
theorem next_end {P : Program} (w : World) (h k : Nat) (l : List Nat) (ty : TypeId) (hit : w.heap[h]? = some (.stringIter (strOf l) k)) (hk : l.length ≤ k) :
    (Instr.next (.pointer (some ⟨h, 0, none⟩)) true ty).run P w = .ok (.tuple #[.bool false]) w := Lib.run_next_end_at w h _ k ty hit (by rw [strOf_size]; omega)

theorem ret_str {a b : ByteArray} (h : a = b) : Ending.returned (.string a) = .returned (.string b) := by rw [h]
theorem parts_any (op : Int) (w : World) (hT : TabP w) (hop : i64R op) :
    Calls Tryd.prog 10 #[.int .i64 op] w fun e w' => e = .returned (.string (strOf (partsN op))) ∧ w = w' := by
  obtain ⟨h1, h2⟩ := hop
  by_cases h0 : op < 0
  · have he := hide (show strOf (partsN op) = ⟨#[]⟩ by unfold partsN; rw [if_pos h0]; rfl)
    go_enter Tryd.func10, Tryd.ntmps10
    go_wp2
    go_ret
    exact ⟨ret_str he.out.symm, rfl⟩
  · by_cases h24 : 24 ≤ op
    · have he := hide (show strOf (partsN op) = ⟨#[]⟩ by
        unfold partsN; rw [if_neg h0, List.getD, List.getElem?_eq_none (show partsT.length ≤ op.toNat by show 24 ≤ _; omega)]; rfl)
      go_enter Tryd.func10, Tryd.ntmps10
      go_wp2
      go_ret
      exact ⟨ret_str he.out.symm, rfl⟩
    · obtain ⟨j, rfl⟩ : ∃ j : Nat, op = j := ⟨op.toNat, by omega⟩
      have he := hide (show strOf (partsN j) = strOf (partsT.getD j []) by unfold partsN; rw [if_neg h0]; rfl)
      have hc := hT.2 j (by omega)
      have hs := hT.1
      have hj : j < 24 := by omega
      generalize strOf (partsT.getD j []) = s at *
      clear hT
      go_enter Tryd.func10, Tryd.ntmps10
      go_wp2
      go_ret
      exact ⟨ret_str he.out.symm, rfl⟩
theorem strOf_nil {l : List Nat} (h : l ≠ []) : (strOf l).toList ≠ [] := by simpa [strOf] using h
theorem isOp_yes (op : Int) (w : World) (hT : TabP w) (hop : i64R op) (h : partsN op ≠ []) :
    Calls Tryd.prog 91 #[.int .i64 op] w fun e w' => e = .returned (.bool true) ∧ w = w' := by
  have H := hide (parts_any op w hT hop)
  have hn := strOf_nil h
  generalize strOf (partsN op) = s at *
  clear hT h hop
  have hs : (!s.toList.isEmpty) = true := by simpa using hn
  go_enter Tryd.func91, Tryd.ntmps91
  go_wp2_with (go_at_call 10; refine H.out.mono ?_; rintro e w' ⟨rfl, rfl⟩)
  go_ret
  exact ⟨by simp [hn], rfl⟩
theorem isOp_no (op : Int) (w : World) (hT : TabP w) (hop : i64R op) (h : partsN op = []) :
    Calls Tryd.prog 91 #[.int .i64 op] w fun e w' => e = .returned (.bool false) ∧ w = w' := by
  have H := hide (parts_any op w hT hop)
  rw [h] at H
  clear hT h hop
  go_enter Tryd.func91, Tryd.ntmps91
  go_wp2_with (go_at_call 10; refine H.out.mono ?_; rintro e w' ⟨rfl, rfl⟩)
  go_ret
  exact ⟨by simp [strOf], rfl⟩

/-- A field by its letter. -/
def fidx (c : Nat) : Nat := if c = 68 then 1 else if c = 65 then 2 else if c = 66 then 3 else if c = 77 then 5 else 4
theorem field_any (g c : Nat) (w : World) (hc : isLetter c) :
    Calls Tryd.prog 93 #[.pointer (some ⟨g, 0, none⟩), .int .i32 (c : Int)] w fun e w' => e = .returned (.pointer (some ⟨g, fidx c, none⟩)) ∧ w = w' := by
  unfold isLetter at hc
  rcases hc with rfl | rfl | rfl | rfl | rfl | rfl | rfl
  all_goals
    go_enter Tryd.func93, Tryd.ntmps93
    go_wp2
    go_ret
    exact ⟨rfl, rfl⟩

def kindB (k : Int) : Bool := k == 0 || k == 1 || k == 2
theorem isKind_any (k : Int) (w : World) :
    Calls Tryd.prog 74 #[.int .i64 k] w fun e w' => e = .returned (.bool (kindB k)) ∧ w = w' := by
  unfold kindB
  go_enter Tryd.func74, Tryd.ntmps74
  go_wp2
  all_goals
    go_ret
    exact ⟨by simp_all, rfl⟩
def baseB (k b : Int) : Bool := if k = 2 then decide (0 ≤ b) else b == -1
theorem baseMay_any (k b : Int) (w : World) :
    Calls Tryd.prog 75 #[.int .i64 k, .int .i64 b] w fun e w' => e = .returned (.bool (baseB k b)) ∧ w = w' := by
  unfold baseB
  go_enter Tryd.func75, Tryd.ntmps75
  go_wp2
  all_goals
    go_ret
    exact ⟨by simp_all, rfl⟩

set_option maxRecDepth 100000 in
theorem allPut_any (va : Value) (zs : List Int) (w : World) (B : Nat) (hx : IntsV w (· < B) va zs) :
    Calls Tryd.prog 92 #[va] w fun e w' => e = .returned (.bool (zs.all fun z => decide (0 ≤ z))) ∧ w = w' := by
  obtain ⟨A, c, rfl, hc, hm⟩ := hx.open'
  obtain ⟨n, hn⟩ : ∃ n, zs.length = n := ⟨_, rfl⟩
  rw [hn] at hx hc ⊢
  have HN := hide hn
  have HX := hide hx
  clear hn hx
  go_enter Tryd.func92, Tryd.ntmps92
  go_wp2
  go_loop [7] (fun i => ∃ k : Nat, k ≤ n ∧ i = .int .i64 k ∧ Hid ((zs.take k).all (fun z => decide (0 ≤ z)) = true)) (fun i => n - (intOf i).toNat)
  case atStart => exact ⟨0, Nat.zero_le _, rfl, hide (by simp)⟩
  case round =>
    obtain ⟨k, hk, rfl, hall⟩ := hrel
    by_cases hlt : k < n
    · obtain ⟨y, hy⟩ : ∃ y, zs[k]? = some y := ⟨_, List.getElem?_eq_getElem (by have := HN.out; omega)⟩
      obtain ⟨b, o, rfl, hbb, e0, -⟩ := HX.out.get hy
      have HY := hide hy
      clear hy
      by_cases h0 : y < 0
      · go_wp2
        go_ret
        exact ⟨ret_bool (allB_not HY.out (by simp; omega)).symm, rfl⟩
      · go_wp2
        go_round
        case rel => exact ⟨k + 1, by omega, by go_num, hide (allB_take hall.out HY.out (by simp; omega))⟩
        case measure => simp [intOf]; omega
    · go_wp2
      go_ret
      exact ⟨ret_bool (allB_end hall.out HN.out (by omega)).symm, rfl⟩
end Go.Proofs.YtpggjolbohffjaaDoor
