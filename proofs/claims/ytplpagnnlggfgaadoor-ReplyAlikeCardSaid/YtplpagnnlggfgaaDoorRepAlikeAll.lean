/-
  The walk over ReplyAlike, told of the arguments as they came in. Conditions: those that the theorem names.
-/
import Derived.Test.YtplpagnnlggfgaaDoorRepAlikeWalk
namespace Go.Proofs.YtplpagnnlggfgaaDoor
open Go.RowKit

theorem alike_all (a b c : Rp) (A1 A2 A3 : Option Addr) (n1 c1 n2 c2 n3 c3 : Nat) (d : Int) (w : World) (ha : RGot w a A1 n1 c1) (hb : RGot w b A2 n2 c2) (hc : RGot w c A3 n3 c3) (hd : -9223372036854775808 ≤ d ∧ d ≤ 9223372036854775807) (g : Glob w) :
    Calls Tryd.prog 4 #[.agg (rpvals a A1 n1 c1), .agg (rpvals b A2 n2 c2), .agg (rpvals c A3 n3 c3), .int .i64 d] w fun e w' => e = .returned (.bool true) ∧ Below w.heap.size w w' := alike_walk a b c A1 A2 A3 n1 c1 n2 c2 n3 c3 d w g ha hb hc hd
end Go.Proofs.YtplpagnnlggfgaaDoor
