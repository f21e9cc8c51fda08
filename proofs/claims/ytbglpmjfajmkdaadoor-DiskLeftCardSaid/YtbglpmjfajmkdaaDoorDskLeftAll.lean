/-
  The law DiskLeft: its walk. Condition: the one package variable of errors holds what the program's text lays (Glob).
-/
import Derived.Test.YtbglpmjfajmkdaaDoorDskLeft
namespace Go.Proofs.YtbglpmjfajmkdaaDoor
open Go.RowKit DP
theorem left_walk (A : Option Addr) (n c : Nat) (l : List Wr) (k : Int) (w : World) (hn : l.length = n) (hs : Seen w w.heap.size A (wcells l)) (hmax : n ≤ 9223372036854775807) (hsz : ∀ x ∈ l, x.b.size ≤ 9223372036854775807 ∧ x.file.size ≤ 9223372036854775807) (hG : Glob w) :
    Calls Tryd.prog 7 #[.slice A n c, .int .i64 k] w fun e w' => e = .returned (.bool true) ∧ Below w.heap.size w w' := by
  cases hgr : greatW l with
  | true => exact left_great A n c l k w hn hs hmax hsz hG hgr
  | false => exact left_main A n c l k w hn hs hmax hsz hG hgr
end Go.Proofs.YtbglpmjfajmkdaaDoor
