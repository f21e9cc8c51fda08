/-
  The walk over RequestByte, told of a slice of bytes as it came in. Conditions: those that the theorem names.
-/
import Derived.Test.YtfcifblbapadpaaDoorReqByteWalk
namespace Go.Proofs.YtfcifblbapadpaaDoor
open Go.RowKit

theorem byte_all (a : Option Addr) (len cap : Nat) (zs : List Int) (pl cc : Int) (w : World) (h : IsRow .u8 w a len cap zs) (hcc : 0 ≤ cc ∧ cc ≤ 255) (g : Glob w) :
    Calls Tryd.prog 4 #[.slice a len cap, .int .i64 pl, .int .u8 cc] w fun e w' => e = .returned (.bool true) ∧ Below w.heap.size w w' := by
  obtain ⟨bs, hl, hs, -, -⟩ := bytes_in h
  exact byte_walk a len cap bs pl cc w g hs hl hcc
end Go.Proofs.YtfcifblbapadpaaDoor
