/-
  Files beside a disk that is stored; one operation in a slice of its own. No conditions.
-/
import Derived.Test.YtbglpmjfajmkdaaDoorDskWr
import Derived.Test.YtbglpmjfajmkdaaDoorDskAttB
namespace Go.Proofs.YtbglpmjfajmkdaaDoor
open Go.RowKit DP
theorem seen4 {W : World} {B g : Nat} {A : Option Addr} {fs : List Fl} {o0 o1 o2 o3 a b c d : Value} (h : Seen W B A (fcells fs)) (v : Var W g 24 #[o0, o1, o2, o3]) (ho : ∀ (i : Nat) (s : ByteArray), (#[o0, o1, o2, o3] : Array Value)[i]? ≠ some (Value.string s)) :
    Seen ((((W.setCell ⟨g, 0, none⟩ a).setCell ⟨g, 1, none⟩ b).setCell ⟨g, 2, none⟩ c).setCell ⟨g, 3, none⟩ d) B A (fcells fs) :=
  have ha := seen_apart h v ho
  (((h.off ha).off ha).off ha).off ha
theorem one_cells (vo : Int) (vf vb : ByteArray) (vn : Int) (W : World) (e : TypeId) : Seen (W.alloc (.cells #[.int .i8 vo, .string vf, .string vb, .int .i64 vn] e)) (W.heap.size + 1) (some ⟨W.heap.size, 0, none⟩) (wcells [⟨vo, vf, vb, vn⟩]) :=
  Seen.new W (wcells [⟨vo, vf, vb, vn⟩]) e
end Go.Proofs.YtbglpmjfajmkdaaDoor
