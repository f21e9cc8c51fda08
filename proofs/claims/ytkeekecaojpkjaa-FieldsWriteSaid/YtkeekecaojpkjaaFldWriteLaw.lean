/-
  FieldsWrite where the test ahead of all fails, and both together. Condition: what is said of the slice and the string that came in.
-/
import Derived.Test.YtkeekecaojpkjaaFldWriteWalk
namespace Go.Proofs.Ytkeekecaojpkjaa
open Go.RowKit

set_option maxRecDepth 100000 in
theorem write_long (A : Option Addr) (c lb : Nat) (n : Int) (s : ByteArray) (yes : Bool) (w : World) (hx : 4000 < lb + s.size) (hb : lb ≤ 140737488351232) (hs : s.size ≤ 140737488351232) :
    Calls Try.prog 3 #[.slice A lb c, .int .i64 n, .string s, .bool yes] w fun e w' => e = .returned (.bool true) ∧ Below w.heap.size w w' := by
  go_enter Try.func3, Try.ntmps3
  go_wp2_with fail
  refine (wakes_any _).mono ?_
  rintro e w1 ⟨rfl, hb⟩
  go_wp2
  go_ret
  exact ⟨rfl, hb⟩

theorem write_walk (a0 : Option Addr) (len0 cap0 : Nat) (z0 : List Int) (a1 : Int) (a2 : ByteArray) (a3 : Bool) (w : World) (w0 : IsRow .u8 w a0 len0 cap0 z0) (r0 : cap0 ≤ 140737488351232) (r2 : a2.size ≤ 140737488351232) :
    Calls Try.prog 3 #[.slice a0 len0 cap0, .int .i64 a1, .string a2, .bool a3] w fun e w' => e = .returned (.bool true) ∧ Below w.heap.size w w' := by
  obtain ⟨bs, hlb, hs, hl, hm⟩ := bytes_in w0
  by_cases hx : 4000 < len0 + a2.size
  · exact write_long a0 cap0 len0 a1 a2 a3 w hx (by omega) r2
  · exact write_in a0 cap0 bs len0 a1 a2 a3 w hlb hs (by omega) hl

end Go.Proofs.Ytkeekecaojpkjaa
