/-
  Places in a text as the laws reckon them; contracts in a region that draws its order. No conditions.
-/
import Derived.Test.YtfcifblbapadpaaDoorReqG6
namespace Go.Proofs.YtfcifblbapadpaaDoor
open Go.RowKit

theorem at_is (cut : Int) (n : Nat) (hn : n ≤ 10000) : ∃ c : Nat, (wrap64 (wrap64 (cut.tmod ((n : Int) + 1) + (n : Int)) + 1)).tmod ((n : Int) + 1) = (c : Int) ∧ c ≤ n := by
  have hp : (0 : Int) < (n : Int) + 1 := by omega
  have h1 := Int.tmod_lt_of_pos cut hp
  have h2 := Int.lt_tmod_of_pos cut hp
  obtain ⟨r, hr⟩ : ∃ r, r = cut.tmod ((n : Int) + 1) := ⟨_, rfl⟩
  rw [← hr] at h1 h2 ⊢
  have e1 : wrap64 (r + (n : Int)) = r + (n : Int) := by unfold wrap64; omega
  have e2 : wrap64 (r + (n : Int) + 1) = r + (n : Int) + 1 := by unfold wrap64; omega
  rw [e1, e2]
  have h3 := Int.tmod_lt_of_pos (r + (n : Int) + 1) hp
  have h4 : 0 ≤ (r + (n : Int) + 1).tmod ((n : Int) + 1) := Int.tmod_nonneg _ (by omega)
  exact ⟨((r + (n : Int) + 1).tmod ((n : Int) + 1)).toNat, by omega, by omega⟩
theorem cut_is (cut : Int) (n : Nat) (h0 : 0 < n) (hn : n ≤ 10000) : ∃ c : Nat, (wrap64 (cut.tmod (n : Int) + (n : Int))).tmod (n : Int) = (c : Int) ∧ c < n := by
  have hp : (0 : Int) < (n : Int) := by omega
  have h1 := Int.tmod_lt_of_pos cut hp
  have h2 := Int.lt_tmod_of_pos cut hp
  obtain ⟨r, hr⟩ : ∃ r, r = cut.tmod (n : Int) := ⟨_, rfl⟩
  rw [← hr] at h1 h2 ⊢
  have e1 : wrap64 (r + (n : Int)) = r + (n : Int) := by unfold wrap64; omega
  rw [e1]
  have h3 := Int.tmod_lt_of_pos (r + (n : Int)) hp
  have h4 : 0 ≤ (r + (n : Int)).tmod (n : Int) := Int.tmod_nonneg _ (by omega)
  exact ⟨((r + (n : Int)).tmod (n : Int)).toNat, by omega, by omega⟩
/-- A variable's five cells in whatever world behind. -/
theorem five_after {W : World} {g T : Nat} {a b c d e : Value} (h : Var W g T #[a, b, c, d, e]) (x : After W) : x.val.cell? ⟨g, 0, none⟩ = some a ∧ x.val.cell? ⟨g, 1, none⟩ = some b ∧ x.val.cell? ⟨g, 2, none⟩ = some c ∧ x.val.cell? ⟨g, 3, none⟩ = some d ∧ x.val.cell? ⟨g, 4, none⟩ = some e := by
  obtain ⟨i0, i1, i2, i3, i4, _⟩ := (h.below x.below h.lt).cells5
  exact ⟨i0, i1, i2, i3, i4⟩
theorem rd_after {T : TypeId} {W : World} {g : Nat} {s : ByteArray} {p : Nat} {bad : Bool} (h : Rd T W g s p bad) (x : After W) : x.val.cell? ⟨g, 0, none⟩ = some (.string s) ∧ x.val.cell? ⟨g, 1, none⟩ = some (.int .i64 (p : Int)) ∧ x.val.cell? ⟨g, 2, none⟩ = some (.bool bad) :=
  Rd.cells (Var.below h x.below (Var.lt h))
end Go.Proofs.YtfcifblbapadpaaDoor
