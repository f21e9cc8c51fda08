/-
  Contracts of frame's and the reference's Size: what each returns. Conditions: those that each theorem names.
-/
import Derived.Test.YtcfdfpihmmaalaaFrmMem
namespace Go.Proofs.Ytcfdfpihmmaalaa
open Go.RowKit

theorem size_yes (n : Nat) (w : World) (h : n ≤ 1024) : Calls Try.prog 15 #[.int .i64 (n : Int)] w fun e w' => e = .returned (.int .i64 ((n + 4 : Nat) : Int)) ∧ w = w' := by
  go_enter Try.func15, Try.ntmps15
  go_wp2
  go_ret
  exact ⟨ret_int (by omega), rfl⟩
theorem size_no (n : Int) (w : World) (h : n < 0 ∨ 1024 < n) : Calls Try.prog 15 #[.int .i64 n] w fun e w' => e = .returned (.int .i64 0) ∧ w = w' := by
  rcases h with h | h
  all_goals
    go_enter Try.func15, Try.ntmps15
    go_wp2
    go_ret
    exact ⟨rfl, rfl⟩
theorem rsize_yes (n : Nat) (w : World) (h : n ≤ 1024) : Calls Try.prog 16 #[.int .i64 (n : Int)] w fun e w' => e = .returned (.int .i64 ((n + 4 : Nat) : Int)) ∧ w = w' := by
  go_enter Try.func16, Try.ntmps16
  go_wp2
  go_ret
  exact ⟨ret_int (by omega), rfl⟩
theorem rsize_no (n : Int) (w : World) (h : n < 0 ∨ 1024 < n) : Calls Try.prog 16 #[.int .i64 n] w fun e w' => e = .returned (.int .i64 0) ∧ w = w' := by
  rcases h with h | h
  all_goals
    go_enter Try.func16, Try.ntmps16
    go_wp2
    go_ret
    exact ⟨rfl, rfl⟩
end Go.Proofs.Ytcfdfpihmmaalaa
