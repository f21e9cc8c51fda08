/-
  The law DiskFull: its walk where the disk may be. Conditions: those that each theorem names.
-/
import Derived.Test.YtbglpmjfajmkdaaDoorDskFullA
namespace Go.Proofs.YtbglpmjfajmkdaaDoor
open Go.RowKit DP

/-- What the law has behind Do: the disk that comes, beside the disk that was and the file that was. -/
def FullRel (fs' : List Fl) (cap' left' : Int) (D0 F0 : Array Value) (H g7 g9 : Nat) (w wx : World) : Prop :=
  ∃ A6 m6 c6, fs'.length = m6 ∧ Seen wx wx.heap.size A6 (fcells fs') ∧ Var wx g9 24 #[.slice A6 m6 c6, .int .i64 cap', .int .i64 left', .bool false] ∧ Var wx H 24 D0 ∧ Var wx g7 41 F0 ∧ Below w.heap.size w wx
theorem full_set {fs' : List Fl} {cap' left' : Int} {D0 F0 : Array Value} {H g7 g9 m6 c6 : Nat} {A6 : Option Addr} {w w6 : World} {o0 o1 o2 o3 : Value} (hl : fs'.length = m6) (hs : Seen w6 w6.heap.size A6 (fcells fs')) (hv : Var w6 g9 24 #[o0, o1, o2, o3])
    (ho : ∀ (i : Nat) (s : ByteArray), (#[o0, o1, o2, o3] : Array Value)[i]? ≠ some (Value.string s)) (hp : Var w6 H 24 D0) (hu : Var w6 g7 41 F0) (n1 : H ≠ g9) (n2 : g7 ≠ g9) (hg : w.heap.size ≤ g9) (hb : Below w.heap.size w w6) :
    FullRel fs' cap' left' D0 F0 H g7 g9 w ((((w6.setCell ⟨g9, 0, none⟩ (.slice A6 m6 c6)).setCell ⟨g9, 1, none⟩ (.int .i64 cap')).setCell ⟨g9, 2, none⟩ (.int .i64 left')).setCell ⟨g9, 3, none⟩ (.bool false)) :=
  have ha := seen_apart hs hv ho
  ⟨A6, m6, c6, hl, ((((hs.off ha).off ha).off ha).off ha).up (by simp), set4_var hv, set4_other hp n1, set4_other hu n2, hb.trans (set4_below hg)⟩
theorem full_new {fs' : List Fl} {cap' left' : Int} {D0 F0 : Array Value} {H g7 m6 c6 : Nat} {A6 : Option Addr} {w w6 : World} (hl : fs'.length = m6) (hs : Seen w6 w6.heap.size A6 (fcells fs')) (hp : Var w6 H 24 D0) (hu : Var w6 g7 41 F0) (hb : Below w.heap.size w w6) :
    FullRel fs' cap' left' D0 F0 H g7 w6.heap.size w (w6.alloc (.cells #[.slice A6 m6 c6, .int .i64 cap', .int .i64 left', .bool false] 24)) :=
  ⟨A6, m6, c6, hl, (hs.below (bel1 w6 _ _)).up (by simp), new1 w6 _ _, hp.alloc _, hu.alloc _, hb.alloc hb.size _⟩

end Go.Proofs.YtbglpmjfajmkdaaDoor
