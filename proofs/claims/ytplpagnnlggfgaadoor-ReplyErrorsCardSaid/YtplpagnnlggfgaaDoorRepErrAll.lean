/-
  The walk over ReplyErrors, told of the reply as it came in. Conditions: those that the theorem names.
-/
import Derived.Test.YtplpagnnlggfgaaDoorRepErrWalk
namespace Go.Proofs.YtplpagnnlggfgaaDoor
open Go.RowKit

theorem errors_all (a : Rp) (A : Option Addr) (n c : Nat) (w : World) (hx : RGot w a A n c) (g : Glob w) :
    Calls Tryd.prog 5 #[.agg (rpvals a A n c)] w fun e w' => e = .returned (.bool true) ∧ Below w.heap.size w w' := errors_walk a A n c w g hx
end Go.Proofs.YtplpagnnlggfgaaDoor
