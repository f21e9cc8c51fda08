/-
  The walk over ReplyBack, told of the arguments as they came in. Conditions: those that the theorem names.
-/
import Derived.Test.YtplpagnnlggfgaaDoorRepBackWalk
namespace Go.Proofs.YtplpagnnlggfgaaDoor
open Go.RowKit

theorem back_all (a : Rp) (A : Option Addr) (n c : Nat) (b : Option Addr) (len cap : Nat) (zs : List Int) (w : World) (hx : RGot w a A n c) (h : IsRow .u8 w b len cap zs) (g : Glob w) :
    Calls Tryd.prog 3 #[.agg (rpvals a A n c), .slice b len cap] w fun e w' => e = .returned (.bool true) ∧ Below w.heap.size w w' := by
  obtain ⟨bs, hl, hs, -, -⟩ := bytes_in h
  exact back_walk a A b n c len cap bs w g hx hs hl
end Go.Proofs.YtplpagnnlggfgaaDoor
