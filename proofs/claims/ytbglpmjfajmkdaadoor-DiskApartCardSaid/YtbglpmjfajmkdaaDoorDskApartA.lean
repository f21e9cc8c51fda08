/-
  The law DiskApart: what serves all of its walk. Conditions: those that each theorem names.
-/
import Derived.Test.YtbglpmjfajmkdaaDoorDskWakes
import Derived.Test.YtbglpmjfajmkdaaDoorDskWr
import Derived.Test.YtbglpmjfajmkdaaDoorDskLawPlain
import Derived.Test.YtbglpmjfajmkdaaDoorDskLeft
import Derived.Test.YtbglpmjfajmkdaaDoorDskApartPlainB
import Derived.Test.YtbglpmjfajmkdaaDoorDskSame
namespace Go.Proofs.YtbglpmjfajmkdaaDoor
open Go.RowKit DP

/-- The three variables at the law's head. -/
structure Three (A : Option Addr) (n c : Nat) (fs : List Fl) (cap left : Int) (down : Bool) (vo : Int) (vf vb : ByteArray) (vn wo : Int) (wf wb : ByteArray) (wn : Int) (w W : World) : Prop where
  d : Var W w.heap.size 24 #[.slice A n c, .int .i64 cap, .int .i64 left, .bool down]
  v : Var W (w.heap.size + 1) 27 #[.int .i8 vo, .string vf, .string vb, .int .i64 vn]
  u : Var W (w.heap.size + 1 + 1) 27 #[.int .i8 wo, .string wf, .string wb, .int .i64 wn]
  s : Seen W w.heap.size A (fcells fs)
  b : Below w.heap.size w W
  z : w.heap.size + 3 ≤ W.heap.size
section
variable {A : Option Addr} {n c : Nat} {fs : List Fl} {cap left : Int} {down : Bool} {vo : Int} {vf vb : ByteArray} {vn wo : Int} {wf wb : ByteArray} {wn : Int} {w W W' : World}
theorem Three.next (h : Three A n c fs cap left down vo vf vb vn wo wf wb wn w W) (k : Below W.heap.size W W') : Three A n c fs cap left down vo vf vb vn wo wf wb wn w W' :=
  ⟨h.d.below k h.d.lt, h.v.below k h.v.lt, h.u.below k h.u.lt, h.s.below (k.mono h.b.size), h.b.trans (k.mono h.b.size), Nat.le_trans h.z k.size⟩
theorem Three.start (hs : Seen w w.heap.size A (fcells fs)) : Three A n c fs cap left down vo vf vb vn wo wf wb wn w (((w.alloc (.cells #[.slice A n c, .int .i64 cap, .int .i64 left, .bool down] 24)).alloc (.cells #[.int .i8 vo, .string vf, .string vb, .int .i64 vn] 27)).alloc (.cells #[.int .i8 wo, .string wf, .string wb, .int .i64 wn] 27)) :=
  have h := new3 w #[.slice A n c, .int .i64 cap, .int .i64 left, .bool down] #[.int .i8 vo, .string vf, .string vb, .int .i64 vn] #[.int .i8 wo, .string wf, .string wb, .int .i64 wn] 24 27 27
  have hb := bel3 w #[.slice A n c, .int .i64 cap, .int .i64 left, .bool down] #[.int .i8 vo, .string vf, .string vb, .int .i64 vn] #[.int .i8 wo, .string wf, .string wb, .int .i64 wn] 24 27 27
  ⟨h.1, h.2.1, h.2.2, hs.below hb, hb, by simp⟩
end
theorem apart_small (d : Dk) (h : great d = false) : Small d.fs := by
  unfold great at h
  rw [Bool.or_eq_false_iff] at h
  have h1 := of_decide_eq_false h.1
  refine ⟨by omega, fun f hf => ?_⟩
  have h2 := List.any_eq_false.1 h.2 f hf
  unfold greatF at h2
  simp only [Bool.or_eq_true, decide_eq_true_eq, not_or] at h2
  omega
theorem two_cells (vo : Int) (vf vb : ByteArray) (vn wo : Int) (wf wb : ByteArray) (wn : Int) (W : World) (e : TypeId) :
    Seen (W.alloc (.cells #[.int .i8 vo, .string vf, .string vb, .int .i64 vn, .int .i8 wo, .string wf, .string wb, .int .i64 wn] e)) (W.heap.size + 1) (some ⟨W.heap.size, 0, none⟩) (wcells [⟨vo, vf, vb, vn⟩, ⟨wo, wf, wb, wn⟩]) :=
  Seen.new W (wcells [⟨vo, vf, vb, vn⟩, ⟨wo, wf, wb, wn⟩]) e
end Go.Proofs.YtbglpmjfajmkdaaDoor
