/-
  The walk over FrameTells: it returns true and turns nothing that was there. Condition: the strings' lengths.
-/
import Derived.Test.YtcfdfpihmmaalaaFrmAny
namespace Go.Proofs.Ytcfdfpihmmaalaa
open Go.RowKit

set_option maxRecDepth 100000 in
theorem tells_long (load b : ByteArray) (n : Int) (w : World) (h : 6000 < load.size + b.size) (hl : load.size ≤ 140737488351232) (hb : b.size ≤ 140737488351232) :
    Calls Try.prog 3 #[.string load, .string b, .int .i64 n] w fun e w' => e = .returned (.bool true) ∧ Below w.heap.size w w' := by
  go_enter Try.func3, Try.ntmps3
  go_wp2_with fail
  refine (wakes_any _).mono ?_
  rintro e w1 ⟨rfl, hb⟩
  go_wp2
  go_ret
  exact ⟨rfl, hb⟩

set_option maxRecDepth 100000 in
set_option maxHeartbeats 2000000 in
theorem tells_in (load b : ByteArray) (n : Int) (w : World) (h : load.size + b.size ≤ 6000) :
    Calls Try.prog 3 #[.string load, .string b, .int .i64 n] w fun e w' => e = .returned (.bool true) ∧ Below w.heap.size w w' := by
  have hr := rows_most b (m := 6000) (by omega)
  obtain ⟨k, hk⟩ : ∃ k, k = (FP.rows (bytesOf b)).length := ⟨_, rfl⟩
  obtain ⟨t, ht⟩ : ∃ t, t = FP.torn (bytesOf b) := ⟨_, rfl⟩
  have ha := fun W => all_any b (by omega) W
  have hra := fun W => rall_any b (by omega) W
  rw [← hk] at hr
  rw [← hk, ← ht] at ha hra
  have HA := Lib.hid ha
  have HRA := Lib.hid hra
  have HK := Lib.hid hk
  clear ha hra hk ht
  go_enter Try.func3, Try.ntmps3
  go_wp2_with fail
  refine (bytes_any load _ (by omega)).mono ?_
  rintro e w1 ⟨rfl, h1⟩
  go_wp2_with fail
  refine (rbytes_any load _ (by omega)).mono ?_
  rintro e w2 ⟨rfl, h2⟩
  go_wp2_with fail
  refine (first_any b _ (by omega)).mono ?_
  rintro e w3 ⟨rfl, h3⟩
  go_wp2_with fail
  refine (rfirst_any' b _ (by omega)).mono ?_
  rintro e w4 ⟨rfl, h4⟩
  have g4 : Below w.heap.size w w4 := ((h1.trans (h2.mono h1.size)).trans (h3.mono (by have := h1.size; have := h2.size; omega))).trans (h4.mono (by have := h1.size; have := h2.size; have := h3.size; omega))
  clear h1 h2 h3 h4
  go_wp2_with fail
  refine (HA.out _).mono ?_
  rintro e w5 ⟨A1, c1, rfl, hs1, hc1, h5⟩
  go_wp2_with fail
  refine (HRA.out _).mono ?_
  rintro e w6 ⟨A2, c2, rfl, hs2, hc2, h6⟩
  have g6 : Below w.heap.size w w6 := (g4.trans (h5.mono g4.size)).trans (h6.mono (by have := g4.size; have := h5.size; omega))
  have hs1' := (hs1.below h6).up h6.size
  clear h5 h6 hs1 g4
  go_wp2_with fail
  refine (same_any A1 A2 c1 c2 k k _ _ _ HK.out HK.out hs1' hs2 (by omega) (by omega)).mono ?_
  rintro e w7 ⟨rfl, q, rfl⟩
  rw [show decide (FP.rows (bytesOf b) = FP.rows (bytesOf b)) = true from decide_eq_true rfl]
  go_wp2_with fail
  refine (size_any n _).mono ?_
  rintro e w7 ⟨rfl, rfl⟩
  go_wp2_with fail
  refine (rsize_any n _).mono ?_
  rintro e w7 ⟨rfl, rfl⟩
  go_wp2_with fail
  refine (whole_any b (by omega) _).mono ?_
  rintro e w7 ⟨rfl, h7⟩
  go_wp2_with fail
  refine (rwhole_any b (by omega) _).mono ?_
  rintro e w8 ⟨rfl, h8⟩
  go_wp2_with fail
  refine (wakes_any _).mono ?_
  rintro e w9 ⟨rfl, h9⟩
  have z6 := g6.size
  have z7 := h7.size
  have z8 := h8.size
  have g9 : Below w.heap.size w w9 := (((below_drewN g6 q).trans (h7.mono z6)).trans (h8.mono (by have : w6.heap.size ≤ w7.heap.size := z7; omega))).trans (h9.mono (by have : w6.heap.size ≤ w7.heap.size := z7; omega))
  clear h7 h8 h9 g6 z6 z7 z8 hs1' hs2
  go_wp2
  go_ret
  exact ⟨rfl, g9⟩

theorem tells_walk (a0 a1 : ByteArray) (a2 : Int) (w : World) (w0 : a0.size ≤ 140737488351232) (w1 : a1.size ≤ 140737488351232) :
    Calls Try.prog 3 #[.string a0, .string a1, .int .i64 a2] w fun e w' => e = .returned (.bool true) ∧ Below w.heap.size w w' := by
  by_cases h : 6000 < a0.size + a1.size
  · exact tells_long a0 a1 a2 w h w0 w1
  · exact tells_in a0 a1 a2 w (by omega)
end Go.Proofs.Ytcfdfpihmmaalaa
