/-
  Contracts of the document's own answers for varint (rovingref01's Get): what it returns; it turns nothing. Conditions: those that each theorem names.
-/
import Derived.Test.YtchpemgamgcbkaaVarRefA
namespace Go.Proofs.Ytchpemgamgcbkaa
open Go.RowKit

/-- What rovingref01.Get hands back. -/
def GetPost (w : World) (at_ : Nat) (r : Option (Nat × Nat)) (e : Ending) (w' : World) : Prop :=
  w = w' ∧ (∀ n k, r = some (n, k) → e = .returned (.tuple #[.int .i64 (n : Int), .int .i64 ((at_ + k : Nat) : Int), .int .i64 0])) ∧
  (r = none → e = .returned (.tuple #[.int .i64 0, .int .i64 0, .int .i64 70]))
theorem GetPost.of_some {w : World} {at_ n k : Nat} {r : Option (Nat × Nat)} {a b : Int} (hr : r = some (n, k)) (ha : a = n) (hb : b = ((at_ + k : Nat) : Int)) : GetPost w at_ r (.returned (.tuple #[.int .i64 a, .int .i64 b, .int .i64 0])) w := by
  subst ha hb
  refine ⟨rfl, fun n' k' h => ?_, fun h => ?_⟩
  · rw [hr] at h; injection h with h; injection h with h1 h2; subst h1 h2; rfl
  · rw [hr] at h; cases h
theorem GetPost.of_none {w : World} {at_ : Nat} {r : Option (Nat × Nat)} (hr : r = none) : GetPost w at_ r (.returned (.tuple #[.int .i64 0, .int .i64 0, .int .i64 70])) w := by
  refine ⟨rfl, fun n' k' h => ?_, fun _ => rfl⟩
  rw [hr] at h; cases h

theorem mul_unit {u y : Nat} (hu : u ≤ 34359738368) : wrap64 ((u : Int) * ((y : Int) % 128)) = ((u * (y % 128) : Nat) : Int) := by
  have hlt : y % 128 < 128 := Nat.mod_lt _ (by omega)
  have hle : u * (y % 128) ≤ u * 127 := Nat.mul_le_mul_left _ (by omega)
  have e1 : (u : Int) * ((y : Int) % 128) = ((u * (y % 128) : Nat) : Int) := by simp [Int.natCast_mul]
  rw [e1]
  exact IntWalk.wrap64_in _ ⟨by omega, by omega⟩

end Go.Proofs.Ytchpemgamgcbkaa
