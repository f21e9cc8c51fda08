/-
  Variables that were just made, and sums of 'Below' for them. No conditions.
-/
import Derived.Test.YtpppeadmhfggkaaGreatDoorDskOwn
namespace Go.Proofs.YtpppeadmhfggkaaGreatDoor
open Go.RowKit DP

section
variable (w : World) (c1 c2 c3 c4 : Array Value) (T1 T2 T3 T4 : TypeId)
theorem new1 : Var (w.alloc (.cells c1 T1)) w.heap.size T1 c1 := Var.new w c1 T1
theorem new2 : Var ((w.alloc (.cells c1 T1)).alloc (.cells c2 T2)) w.heap.size T1 c1 ∧ Var ((w.alloc (.cells c1 T1)).alloc (.cells c2 T2)) (w.heap.size + 1) T2 c2 :=
  ⟨(new1 w c1 T1).alloc _, by simpa only [World.size_alloc] using new1 (w.alloc (.cells c1 T1)) c2 T2⟩
theorem new3 : Var (((w.alloc (.cells c1 T1)).alloc (.cells c2 T2)).alloc (.cells c3 T3)) w.heap.size T1 c1 ∧ Var (((w.alloc (.cells c1 T1)).alloc (.cells c2 T2)).alloc (.cells c3 T3)) (w.heap.size + 1) T2 c2 ∧
    Var (((w.alloc (.cells c1 T1)).alloc (.cells c2 T2)).alloc (.cells c3 T3)) (w.heap.size + 1 + 1) T3 c3 :=
  ⟨(new2 w c1 c2 T1 T2).1.alloc _, (new2 w c1 c2 T1 T2).2.alloc _, by simpa only [World.size_alloc] using new1 ((w.alloc (.cells c1 T1)).alloc (.cells c2 T2)) c3 T3⟩
theorem bel1 : Below w.heap.size w (w.alloc (.cells c1 T1)) := (Below.refl _ _).alloc (Nat.le_refl _) _
theorem bel2 : Below w.heap.size w ((w.alloc (.cells c1 T1)).alloc (.cells c2 T2)) := (bel1 w c1 T1).alloc (by simp) _
theorem bel3 : Below w.heap.size w (((w.alloc (.cells c1 T1)).alloc (.cells c2 T2)).alloc (.cells c3 T3)) := (bel2 w c1 c2 T1 T2).alloc (by simp; omega) _
end
end Go.Proofs.YtpppeadmhfggkaaGreatDoor
