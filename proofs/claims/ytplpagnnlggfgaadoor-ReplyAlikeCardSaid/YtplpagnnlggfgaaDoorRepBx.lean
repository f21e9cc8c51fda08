/-
  A reply in a variable, and whether its numbers are mild. Conditions: those that a theorem names.
-/
import Derived.Test.YtplpagnnlggfgaaDoorRepErrWalk
namespace Go.Proofs.YtplpagnnlggfgaaDoor
open Go.RowKit

/-- A reply in a variable. -/
structure Bx (w : World) (p : Nat) (x : Rp) (A : Option Addr) (n c : Nat) : Prop where
  v : Var w p 26 (rpvals x A n c)
  r : RGot w x A n c
theorem Bx.below {w w' : World} {p : Nat} {x : Rp} {A : Option Addr} {n c : Nat} (h : Bx w p x A n c) (hb : Below w.heap.size w w') : Bx w' p x A n c := ⟨h.v.below hb h.v.lt, h.r.below hb⟩
theorem mild_of (a : Rp) : ∃ g : Bool, g = false ↔ Mild a := by
  by_cases h : Mild a
  · exact ⟨false, by simp [h]⟩
  · exact ⟨true, by simp [h]⟩
end Go.Proofs.YtplpagnnlggfgaaDoor
