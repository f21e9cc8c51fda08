/-
  The law DiskTells: its walk. Condition: the one package variable of errors holds what the program's text lays (Glob).
-/
import Derived.Test.YtbglpmjfajmkdaaDoorDskTellsB
import Derived.Test.YtbglpmjfajmkdaaDoorDskIn2
namespace Go.Proofs.YtbglpmjfajmkdaaDoor
open Go.RowKit DP
theorem tells_walk (A : Option Addr) (n c : Nat) (fs : List Fl) (cap left : Int) (down : Bool) (O : Option Addr) (no co : Nat) (gs : List Fl) (capo lefto : Int) (downo : Bool) (vo : Int) (vf vb : ByteArray) (vn : Int) (k : Int) (K : Option Addr) (kn kc : Nat) (keep : List Int) (name : ByteArray) (w : World) (hn : fs.length = n) (hnc : n ≤ c) (hs : Seen w w.heap.size A (fcells fs)) (hmax : n ≤ 9223372036854775807) (hsz : ∀ f ∈ fs, f.b.size ≤ 9223372036854775807 ∧ f.n.size ≤ 9223372036854775807) (hlw : -9223372036854775808 ≤ left ∧ left ≤ 9223372036854775807) (hno : gs.length = no) (hso : Seen w w.heap.size O (fcells gs)) (hmo : no ≤ 9223372036854775807) (hzo : ∀ f ∈ gs, f.b.size ≤ 9223372036854775807 ∧ f.n.size ≤ 9223372036854775807) (hvs : vb.size ≤ 9223372036854775807 ∧ vf.size ≤ 9223372036854775807) (hkn : keep.length = kn) (hkm : kn ≤ 9223372036854775807) (hks : Seen w w.heap.size K (keep.map (Value.int .i64))) (hkw : ∀ x ∈ keep, -9223372036854775808 ≤ x ∧ x ≤ 9223372036854775807) (hnm : name.size ≤ 9223372036854775807) (hG : Glob w) : Calls Tryd.prog 3 #[.agg #[.slice A n c, .int .i64 cap, .int .i64 left, .bool down], .agg #[.slice O no co, .int .i64 capo, .int .i64 lefto, .bool downo], .agg #[.int .i8 vo, .string vf, .string vb, .int .i64 vn], .int .i64 k, .slice K kn kc, .string name] w fun e w' => e = .returned (.bool true) ∧ Below w.heap.size w w' := by
  by_cases h : great ⟨fs, cap, left, down⟩ = false ∧ great ⟨gs, capo, lefto, downo⟩ = false ∧ greatW [⟨vo, vf, vb, vn⟩] = false ∧ kn ≤ 200 ∧ name.size ≤ 100
  · exact tells_main A n c fs cap left down O no co gs capo lefto downo vo vf vb vn k K kn kc keep name w hn hnc hs hmax hsz hlw hno hso hmo hzo hvs hkn hkm hks hkw hnm hG h.1 h.2.1 h.2.2.1 h.2.2.2.1 h.2.2.2.2
  · exact tells_out A n c fs cap left down O no co gs capo lefto downo vo vf vb vn k K kn kc keep name w hn hnc hs hmax hsz hlw hno hso hmo hzo hvs hkn hkm hks hkw hnm hG h
end Go.Proofs.YtbglpmjfajmkdaaDoor
