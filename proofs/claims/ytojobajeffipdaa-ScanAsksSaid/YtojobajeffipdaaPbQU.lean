/- The statement ScanAsks, walked: it answers true. No condition. -/
import Derived.Test.YtojobajeffipdaaPbQZ
set_option linter.unusedSimpArgs false
set_option linter.unusedVariables false
namespace Go.Proofs.Ytojobajeffipdaa
open Go.RowKit

set_option maxHeartbeats 4000000 in
set_option maxRecDepth 100000 in
theorem asks_law (v u : Value) (ss : List SpV) (ls : List LcV) (w : World) (hs : SpsV w (· < w.heap.size) v ss) (hl : LcsV w (· < w.heap.size) u ls) :
    Calls Try.prog 4 #[v, u] w fun e w' => e = .returned (.bool true) ∧ Below w.heap.size w w' := by
  have HAL := hide (fun (W : World) => alive16_any W)
  obtain ⟨A, c, rfl, hc, hcm⟩ := hs.open'
  obtain ⟨B, d, rfl, hd, hdm⟩ := hl.open'
  obtain ⟨n, hn⟩ := letl ss.length
  obtain ⟨m, hm⟩ := letl ls.length
  rw [hn] at hs hc ⊢
  rw [hm] at hl hd ⊢
  rcases (show (n ≤ 60 ∧ m ≤ 60) ∨ 60 < n ∨ (n ≤ 60 ∧ 60 < m) by omega) with ⟨hn6, hm6⟩ | hgt | ⟨hn6, hgt⟩
  rotate_left
  · clear hs hl hn hm
    go_enter Try.func4, Try.ntmps4
    go_wp2_with (go_at_call 8; refine (HAL.out w).mono ?_; rintro e w1 ⟨rfl, hb1⟩)
    go_ret
    exact ⟨rfl, hb1⟩
  · clear hs hl hn hm
    go_enter Try.func4, Try.ntmps4
    go_wp2_with (go_at_call 8; refine (HAL.out w).mono ?_; rintro e w1 ⟨rfl, hb1⟩)
    go_ret
    exact ⟨rfl, hb1⟩
  have HQS := hide (fun (W : World) (hW : Below w.heap.size w W) => qslots_any (.slice B m d) ls W (hl.up hW) (by omega))
  have HRS := hide (fun (W : World) (hW : Below w.heap.size w W) => rslots_any (.slice B m d) ls W (hl.up hW) (by omega))
  have HQC := hide (fun (W : World) (hW : Below w.heap.size w W) => qclash_any (.slice A n c) (.slice B m d) ss ls W (hs.up hW) (hl.up hW) (by omega) (by omega))
  have HRC := hide (fun (W : World) (hW : Below w.heap.size w W) => rclash_any (.slice A n c) (.slice B m d) ss ls W (hs.up hW) (hl.up hW) (by omega) (by omega))
  obtain ⟨k, hk⟩ := letl (slotsN ls)
  rw [hk] at HQS HRS
  obtain ⟨b, hb⟩ := letl (clashB ss ls)
  rw [hb] at HQC HRC
  clear hs hl hn hm hk hb
  go_enter Try.func4, Try.ntmps4
  go_wp2_with (first
    | (go_at_call 18; (with_reducible refine (HRC.out w4 c4.out).mono ?_); rintro e w5 ⟨rfl, hb5⟩; have c5 := hide (c4.out.trans (hb5.mono c4.out.size)); clear hb5)
    | (go_at_call 17; (with_reducible refine (HQC.out w3 c3.out).mono ?_); rintro e w4 ⟨rfl, hb4⟩; have c4 := hide (c3.out.trans (hb4.mono c3.out.size)); clear hb4)
    | (go_at_call 16; (with_reducible refine (HRS.out w2 c2.out).mono ?_); rintro e w3 ⟨rfl, hb3⟩; have c3 := hide (c2.out.trans (hb3.mono c2.out.size)); clear hb3)
    | (go_at_call 15; (with_reducible refine (HQS.out w1 c1.out).mono ?_); rintro e w2 ⟨rfl, hb2⟩; have c2 := hide (c1.out.trans (hb2.mono c1.out.size)); clear hb2)
    | (go_at_call 8; refine (HAL.out w).mono ?_; rintro e w1 ⟨rfl, hb1⟩; have c1 := hide hb1; clear hb1))
  go_ret
  exact ⟨by simp, c5.out⟩
end Go.Proofs.Ytojobajeffipdaa
