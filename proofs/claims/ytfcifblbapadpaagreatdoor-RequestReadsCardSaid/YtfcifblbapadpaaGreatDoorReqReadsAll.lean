/-
  The walk over RequestReads, told of a slice of bytes as it came in. Conditions: those that the theorem names.
-/
import Derived.Test.YtfcifblbapadpaaGreatDoorReqReadsWalk
namespace Go.Proofs.YtfcifblbapadpaaGreatDoor
open Go.RowKit

theorem reads_all (a : Option Addr) (len cap : Nat) (zs : List Int) (w : World) (h : IsRow .u8 w a len cap zs) (g : Glob w) :
    Calls Tryz.prog 3 #[.slice a len cap] w fun e w' => e = .returned (.bool true) ∧ Below w.heap.size w w' := by
  obtain ⟨bs, hl, hs, -, -⟩ := bytes_in h
  exact reads_walk a len cap bs w g hs hl
end Go.Proofs.YtfcifblbapadpaaGreatDoor
