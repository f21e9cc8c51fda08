/-
  The law's 'wakes': whatever the world, it returns true and turns nothing that was there. No conditions.
-/
import Derived.Test.YtcfdfpihmmaalaaFrmAll
namespace Go.Proofs.Ytcfdfpihmmaalaa
open Go.RowKit

theorem rows_wake : FP.rows [1, 0, 0, 0, 97, 2] = [[97]] ∧ FP.torn [1, 0, 0, 0, 97, 2] = 1 := by
  have e : ([1, 0, 0, 0, 97, 2] : List UInt8) = FP.enc [97] ++ [2] := rfl
  rw [e, FP.rows_enc (by simp), FP.torn_enc (by simp), FP.rows_end (FP.fst_short (by simp)), FP.torn_end (FP.fst_short (by simp))]
  exact ⟨rfl, rfl⟩

set_option maxRecDepth 100000 in
set_option maxHeartbeats 400000 in
theorem wakes_any (w : World) : Calls Try.prog 7 #[] w fun e w' => e = .returned (.bool true) ∧ Below w.heap.size w w' := by
  have ha := fun W => all_any ⟨#[1, 0, 0, 0, 97, 2]⟩ (by decide) W
  rw [show bytesOf ⟨#[1, 0, 0, 0, 97, 2]⟩ = [1, 0, 0, 0, 97, 2] from rfl, rows_wake.1, rows_wake.2] at ha
  have HA := Lib.hid ha
  clear ha
  go_enter Try.func7, Try.ntmps7
  go_wp2_with fail
  refine (HA.out _).mono ?_
  rintro e w1 ⟨A, c, rfl, hs, hc, hb⟩
  obtain ⟨b, off, rfl, hbl, hcell⟩ := seen_at hs (i := 0) (by simp)
  have hcell' : w1.cell? ⟨b, off, none⟩ = some (.string ⟨#[97]⟩) := hcell
  clear hs hcell
  go_wp2_with fail
  have h3 : Calls Try.prog 15 #[.int .i64 3] w1 fun e w' => e = .returned (.int .i64 7) ∧ w1 = w' := size_yes 3 w1 (by omega)
  refine h3.mono ?_
  rintro e w2 ⟨rfl, rfl⟩
  go_wp2
  go_ret
  exact ⟨rfl, hb⟩
end Go.Proofs.Ytcfdfpihmmaalaa
