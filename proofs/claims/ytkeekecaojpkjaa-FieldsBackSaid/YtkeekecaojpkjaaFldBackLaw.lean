/-
  FieldsBack, the slice opened. Condition: what is said of the slice that came in.
-/
import Derived.Test.YtkeekecaojpkjaaFldBackWalk
namespace Go.Proofs.Ytkeekecaojpkjaa
open Go.RowKit

theorem back_walk (a : Option Addr) (len cap : Nat) (cut : Int) (w : World) (hl : len ≤ maxLen)
    (hrows : ∀ i, i < len → ∃ b off d p q, a = some ⟨b, off, none⟩ ∧ b < w.heap.size ∧ w.cell? ⟨b, off + i * 3, none⟩ = some (.int .i64 d) ∧ w.cell? ⟨b, off + i * 3 + 1, none⟩ = some (.int .i64 p) ∧ w.cell? ⟨b, off + i * 3 + 2, none⟩ = some (.string q) ∧ q.size ≤ maxLen) :
    Calls Try.prog 5 #[.slice a len cap, .int .i64 cut] w fun e w' => e = .returned (.bool true) ∧ Below w.heap.size w w' := by
  obtain ⟨l, hll, hp⟩ := list_of (P := FldRow w a) len (fun i hi => by
    obtain ⟨b, off, d, p, q, ha, hb, h0, h1, h2, _⟩ := hrows i hi
    exact ⟨⟨d, p, q⟩, b, off, ha, hb, h0, h1, h2⟩)
  exact back_in a len cap l cut w hll.symm (by unfold maxLen at hl; omega) hp

end Go.Proofs.Ytkeekecaojpkjaa
