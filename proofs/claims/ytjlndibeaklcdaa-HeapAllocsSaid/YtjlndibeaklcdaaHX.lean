/- A heap among the arguments, opened, and how long its slices may be; two and three ints by value. No condition. -/
import Derived.Test.YtjlndibeaklcdaaHL
import Derived.Test.YtjlndibeaklcdaaCOpenW
set_option linter.unusedSimpArgs false
set_option linter.unusedVariables false
namespace Go.Proofs.Ytjlndibeaklcdaa
open Go.ChangeShapes Go.WideShapes Go.ChangeAt Go.RowKit Go.Deep

theorem bytes_Obj : 0 < Try.prog.bytesOf 43 := of_decide_eq_true (by kernel_rfl)
theorem cells_Obj : Try.prog.cellsOf 43 = 2 := by kernel_rfl
theorem cells_Heap : Try.prog.cellsOf 24 = 1 := by kernel_rfl
theorem hone_Obj : oneCellFields Try.prog (fieldsOf Try.prog 43) = true := by kernel_rfl
theorem hone_Heap : oneCellFields Try.prog (fieldsOf Try.prog 24) = true := by kernel_rfl
theorem types_Obj : (fieldsOf Try.prog 43).toList.map (·.type) = [26, 26] := by kernel_rfl
theorem types_Heap : (fieldsOf Try.prog 24).toList.map (·.type) = [22] := by kernel_rfl
theorem cells_two3 : Try.prog.cellsOf 25 = 2 := by kernel_rfl
def szH (h : List ObjV) : Prop := h.length ≤ reachBytes ∧ ∀ o ∈ h, o.refs.length ≤ reachBytes ∧ o.ints.length ≤ reachBytes
theorem szH.size {h : List ObjV} (s : szH h) : size9 h := by
  have hr : reachBytes ≤ 1152921504606846976 := by decide
  exact ⟨by have := s.1; omega, fun o ho => ⟨by have := (s.2 o ho).1; omega, by have := (s.2 o ho).2; omega⟩⟩
section
variable {H : Type} {enc : TypeId × Value → H} {W : World}
theorem open_objsW {fuel : Nat} {v : Value} {x : DataW H × List MemPlace} (h : DataW.trod enc Try.prog W 0 (fun _ => true) true fuel 22 [v] = some x) (hlt : ∀ y ∈ x.2, y.block < W.heap.size) (hw : (x.1.weights Try.prog 22).all (· ≤ reachBytes) = true) : ∃ xs, ObjsV W (· < W.heap.size) v xs ∧ szH xs := by
  obtain ⟨xs, hv, hl⟩ :=
  open_vecW (P := fun b o (x : ObjV) => ObjC W (· < W.heap.size) b o x ∧ x.refs.length ≤ reachBytes ∧ x.ints.length ≤ reachBytes) (s := 2) (show Try.prog.underlying 22 = some (.slice 43) by kernel_rfl) cells_Obj h hlt (fun b o n cs d pl hl hc htr hp hdw => by
    obtain ⟨n', hf⟩ := read_structW Try.underlying43 hone_Obj types_Obj htr hp hdw
    match cs, hl with
    | [c0, c1], _ =>
      obtain ⟨x0, h0, hp0, hw0⟩ := hf 0 _ c0 rfl rfl
      obtain ⟨x1, h1, hp1, hw1⟩ := hf 1 _ c1 rfl rfl
      obtain ⟨zs, hz, hzl⟩ := open_intsW h0 hp0 hw0
      obtain ⟨ys, hy, hyl⟩ := open_intsW h1 hp1 hw1
      exact ⟨⟨zs, ys⟩, ⟨c0, c1, ⟨hc 0 (by omega), hc 1 (by omega)⟩, hz, hy⟩, hzl, hyl⟩) (by omega) bytes_Obj hw
  exact ⟨xs, hv.mono (fun _ h => h) (fun b o x _ _ h => h.1), hl, fun x hx => (Vec.each hv x hx).elim fun b ⟨o, h⟩ => h.2⟩
set_option maxRecDepth 100000 in
/-- A heap among the arguments. -/
theorem open_heapW {r : Reach} {b0 : Nat} {v : Value} {d : DataW H} {pl : List MemPlace} (hv : Value.okWide Try.prog W r b0 24 v) (h : DataW.Trod enc Try.prog W 0 (fun _ => true) true 24 v d pl) (hlt : ∀ y ∈ pl, y.block < W.heap.size) (hw : (d.weights Try.prog 24).all (· ≤ reachBytes) = true) :
    ∃ vh p, v = .agg #[vh] ∧ ObjsV W (· < W.heap.size) vh p ∧ szH p := by
  obtain ⟨cs, rfl, hsz⟩ := okWide_struct Try.underlying24 hv
  obtain ⟨fuel, hf⟩ := h
  obtain ⟨n', hf⟩ := read_structW Try.underlying24 hone_Heap types_Heap hf hlt hw
  rw [cells_Heap] at hsz
  obtain ⟨l⟩ := cs
  match l, hsz with
  | [c0], _ =>
    obtain ⟨x0, h0, p0, w0⟩ := hf 0 _ c0 rfl rfl
    obtain ⟨p, hp, hs⟩ := open_objsW h0 p0 w0
    exact ⟨c0, p, rfl, hp, hs⟩
set_option maxRecDepth 100000 in
theorem open_twoI {r : Reach} {b0 : Nat} {v : Value} {d : DataW H} {pl : List MemPlace} (hv : Value.okWide Try.prog W r b0 25 v) (h : DataW.Trod enc Try.prog W 0 (fun _ => true) true 25 v d pl) :
    ∃ a b : Int, v = .agg #[.int .i64 a, .int .i64 b] ∧ i64R a ∧ i64R b := by
  have hs : ∃ cs, v = .agg cs ∧ cs.size = Try.prog.cellsOf 25 := by
    simp only [Value.okWide, Try.underlying25] at hv
    obtain ⟨cs, h1, h2, _⟩ := hv
    exact ⟨cs, h1, h2⟩
  obtain ⟨cs, rfl, hsz⟩ := hs
  obtain ⟨fuel, hf⟩ := h
  rw [cells_two3] at hsz
  obtain ⟨l⟩ := cs
  match l, hsz with
  | [c0, c1], _ =>
    obtain ⟨xs, m, -, -, -, hl, hel⟩ := DataW.trod_array Try.underlying25 hf
    have h0 := hel 0 (by omega)
    have h1 := hel 1 (by omega)
    rw [cells_i64] at h0 h1
    rw [List.getElem?_eq_getElem (by omega)] at h0 h1
    obtain ⟨a, rfl, ha⟩ := open_int1 h0
    obtain ⟨b, rfl, hb⟩ := open_int1 h1
    exact ⟨a, b, rfl, ha, hb⟩
end
end Go.Proofs.Ytjlndibeaklcdaa
