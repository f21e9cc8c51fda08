/-
  The walk over EntryOnly: it returns true and turns nothing that was there. Conditions: what is said of the arguments.
-/
import Derived.Test.YtchpemgamgcbkaaGreatEntWakes
import Derived.Test.YtchpemgamgcbkaaGreatRecBackPlain
namespace Go.Proofs.YtchpemgamgcbkaaGreat
open Go.RowKit

theorem EReadIs.er {s : ByteArray} {x : En} {er : Int} (h : EReadIs s x er) : er = 0 ∨ er = 70 := by
  rcases h with ⟨_, _, h⟩ | ⟨_, _, h⟩
  · exact .inl h
  · exact .inr h
theorem EReadIs.ok {s : ByteArray} {x : En} (h : EReadIs s x 0) : bytesOf s = x.enc ∧ x.Good := by
  rcases h with ⟨h1, h2, _⟩ | ⟨_, _, h⟩
  · exact ⟨h1, h2⟩
  · cases h
/-- Longer by some, or shorter, is none of the same. -/
theorem other_length {s t : ByteArray} {x y : En} (h : EReadIs s x 0) (k : EReadIs t y 0) (hl : s.size ≠ t.size) : x ≠ y := by
  intro e
  have h1 := congrArg List.length h.ok.1
  have h2 := congrArg List.length k.ok.1
  rw [bytesOf_length] at h1 h2
  rw [e] at h1
  omega
/-- An entry's variable with what it points to. -/
structure EV (w : World) (g : Nat) (x : En) (A : Option Addr) (n c : Nat) (D : Option Addr) (m d : Nat) : Prop where
  v : Var w g 32 (evals x A n c D m d)
  i : EIn w w.heap.size x A n c D m d
theorem EV.below {w w' : World} {g : Nat} {x : En} {A D : Option Addr} {n c m d : Nat} (h : EV w g x A n c D m d) (hb : Below w.heap.size w w') : EV w' g x A n c D m d := ⟨h.v.below hb h.v.lt, (h.i.below hb).up hb.size⟩
theorem EV.fresh {w w' : World} {x : En} {A D : Option Addr} {n c m d : Nat} {cs : Array Value} {T : TypeId} (h : EIn w w.heap.size x A n c D m d) (hv : Var w' w.heap.size 32 (evals x A n c D m d)) (ho : Only w.heap.size (w.alloc (.cells cs T)) w') : EV w' w.heap.size x A n c D m d ∧ Below w.heap.size w w' := by
  have hb := Only.below (below_new (w := w) (.cells cs T)) ho (Nat.le_refl _)
  exact ⟨⟨hv, (h.below hb).up hb.size⟩, hb⟩

end Go.Proofs.YtchpemgamgcbkaaGreat
