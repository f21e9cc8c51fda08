/-
  The walk over RequestFirst, told of a slice of requests as it came in. Conditions: those that the theorem names.
-/
import Derived.Test.YtfcifblbapadpaaDoorReqFirstWalk
namespace Go.Proofs.YtfcifblbapadpaaDoor
open Go.RowKit

theorem first_all (a : Option Addr) (len cap : Nat) (w : World) (h : ∃ l : List QX, QsIn w w.heap.size l a len) (g : Glob w) :
    Calls Tryd.prog 3 #[.slice a len cap] w fun e w' => e = .returned (.bool true) ∧ Below w.heap.size w w' := by
  obtain ⟨l, hl⟩ := h
  exact first_walk a len cap l w g hl
end Go.Proofs.YtfcifblbapadpaaDoor
