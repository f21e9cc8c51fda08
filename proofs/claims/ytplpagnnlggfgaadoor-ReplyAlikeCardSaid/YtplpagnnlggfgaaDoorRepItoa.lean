/-
  The contract of strconv.Itoa for numbers below 100: a text of two letters at most, and nothing turned. Conditions: that bound.
-/
import Derived.Test.YtplpagnnlggfgaaDoorRepUse
namespace Go.Proofs.YtplpagnnlggfgaaDoor
open Go.RowKit

def TextRes (w : World) (e : Ending) (w' : World) : Prop := (∃ t : ByteArray, e = .returned (.string t) ∧ t.size ≤ 2) ∧ w = w'
theorem extract_le (s : ByteArray) (a b : Nat) : (s.extract a b).size ≤ b - a := by
  rw [← bytesOf_length, bytesOf_extract, List.length_take]
  omega
set_option maxRecDepth 100000 in
set_option maxHeartbeats 1000000 in
theorem small_any (i : Nat) (hi : i < 100) (w : World) : Calls Tryd.prog 49 #[.int .i64 (i : Int)] w (TextRes w) := by
  by_cases h : i < 10
  · have y : decide ((i : Int) < 10) = true := by simp; omega
    go_enter Tryd.func49, Tryd.ntmps49
    go_wp2
    go_ret
    exact ⟨⟨_, rfl, Nat.le_trans (extract_le _ _ _) (by omega)⟩, rfl⟩
  · have y : decide ((i : Int) < 10) = false := by simp; omega
    go_enter Tryd.func49, Tryd.ntmps49
    go_wp2
    go_ret
    exact ⟨⟨_, rfl, Nat.le_trans (extract_le _ _ _) (by omega)⟩, rfl⟩
set_option maxRecDepth 100000 in
set_option maxHeartbeats 1000000 in
theorem format_any (i : Nat) (hi : i < 100) (w : World) : Calls Tryd.prog 48 #[.int .i64 (i : Int), .int .i64 10] w (TextRes w) := by
  have y : decide ((i : Int) < 100) = true := by simp; omega
  have y2 : decide ((0 : Int) ≤ (i : Int)) = true := by simp
  go_enter Tryd.func48, Tryd.ntmps48
  go_wp2_with fail
  refine (small_any i hi _).mono ?_
  rintro e w1 ⟨⟨t, rfl, ht⟩, rfl⟩
  go_wp2
  go_ret
  exact ⟨⟨t, rfl, ht⟩, rfl⟩
set_option maxRecDepth 100000 in
theorem itoa2_any (i : Nat) (hi : i < 100) (w : World) : Calls Tryd.prog 47 #[.int .i64 (i : Int)] w (TextRes w) := by
  go_enter Tryd.func47, Tryd.ntmps47
  go_wp2_with fail
  refine (format_any i hi _).mono ?_
  rintro e w1 ⟨⟨t, rfl, ht⟩, rfl⟩
  go_wp2
  go_ret
  exact ⟨⟨t, rfl, ht⟩, rfl⟩
set_option maxRecDepth 100000 in
theorem itoa_any (i : Nat) (hi : i < 100) (w : World) : Calls Tryd.prog 45 #[.int .i64 (i : Int)] w (TextRes w) := by
  go_enter Tryd.func45, Tryd.ntmps45
  go_wp2_with fail
  refine (itoa2_any i hi _).mono ?_
  rintro e w1 ⟨⟨t, rfl, ht⟩, rfl⟩
  go_wp2
  go_ret
  exact ⟨⟨t, rfl, ht⟩, rfl⟩
end Go.Proofs.YtplpagnnlggfgaaDoor
