/-
  The law DiskApart: its walk. Condition: the one package variable of errors holds what the program's text lays (Glob).
-/
import Derived.Test.YtbglpmjfajmkdaaDoorDskApartX
import Derived.Test.YtbglpmjfajmkdaaDoorDskApartM
import Derived.Test.YtbglpmjfajmkdaaDoorDskIn2
namespace Go.Proofs.YtbglpmjfajmkdaaDoor
open Go.RowKit DP
theorem apart_walk (A : Option Addr) (n c : Nat) (fs : List Fl) (cap left : Int) (down : Bool) (vo : Int) (vf vb : ByteArray) (vn wo : Int) (wf wb : ByteArray) (wn : Int) (w : World) (hn : fs.length = n) (hs : Seen w w.heap.size A (fcells fs)) (hmax : n ≤ 9223372036854775807) (hsz : ∀ f ∈ fs, f.b.size ≤ 9223372036854775807 ∧ f.n.size ≤ 9223372036854775807) (hvs : vb.size ≤ 9223372036854775807 ∧ vf.size ≤ 9223372036854775807) (hws : wb.size ≤ 9223372036854775807 ∧ wf.size ≤ 9223372036854775807) (hG : Glob w) (hlb : -9223372036854775808 ≤ left) : Calls Tryd.prog 6 #[.agg #[.slice A n c, .int .i64 cap, .int .i64 left, .bool down], .agg #[.int .i8 vo, .string vf, .string vb, .int .i64 vn], .agg #[.int .i8 wo, .string wf, .string wb, .int .i64 wn]] w fun e w' => e = .returned (.bool true) ∧ Below w.heap.size w w' := by
  by_cases h : great ⟨fs, cap, left, down⟩ = false ∧ greatW [⟨vo, vf, vb, vn⟩, ⟨wo, wf, wb, wn⟩] = false ∧ check ⟨fs, cap, left, down⟩ = true ∧ vf ≠ wf ∧ n ≤ 62 ∧ down = false ∧ left < 0
  · exact apart_main A n c fs cap left down vo vf vb vn wo wf wb wn w hn hs hmax hsz hvs hws hG hlb h.1 h.2.1 h.2.2.1 h.2.2.2.1 h.2.2.2.2.1 h.2.2.2.2.2.1 h.2.2.2.2.2.2
  · exact apart_out A n c fs cap left down vo vf vb vn wo wf wb wn w hn hs hmax hsz hvs hws hG h
end Go.Proofs.YtbglpmjfajmkdaaDoor
