/-
  Contracts of the document's own May of requests. Conditions: those that the theorem names.
-/
import Derived.Test.YtfcifblbapadpaaGreatDoorReqSameR
import Derived.Test.YtfcifblbapadpaaGreatDoorRecMayR
import Derived.Test.YtfcifblbapadpaaGreatDoorReqRdB
import Derived.Deep.Cut
import Derived.Deep.DeepCutAuto
import Derived.Deep.CutBlock
namespace Go.Proofs.YtfcifblbapadpaaGreatDoor
open Go.RowKit

theorem in_any (n lo hi : Int) (b : Bool) (w : World) (hb : b = true ↔ Between lo hi n) : Calls Tryz.prog 28 #[.int .i64 n, .int .i64 lo, .int .i64 hi] w fun e w' => e = .returned (.bool b) ∧ w = w' := by
  have HB := Lib.hid hb
  clear hb
  unfold Between at HB
  by_cases h1 : lo ≤ n
  · have d1 : decide (lo ≤ n) = true := decide_eq_true h1
    by_cases h2 : n ≤ hi
    · have d2 : decide (n ≤ hi) = true := decide_eq_true h2
      obtain rfl : b = true := HB.out.2 ⟨h1, h2⟩
      clear HB
      go_enter Tryz.func28, Tryz.ntmps28
      go_wp2
      go_ret
      exact ⟨rfl, rfl⟩
    · have d2 : decide (n ≤ hi) = false := decide_eq_false h2
      obtain rfl : b = false := bool_off HB.out (fun h => h2 h.2)
      clear HB
      go_enter Tryz.func28, Tryz.ntmps28
      go_wp2
      go_ret
      exact ⟨rfl, rfl⟩
  · have d1 : decide (lo ≤ n) = false := decide_eq_false h1
    obtain rfl : b = false := bool_off HB.out (fun h => h1 h.1)
    clear HB
    go_enter Tryz.func28, Tryz.ntmps28
    go_wp2
    go_ret
    exact ⟨rfl, rfl⟩

/-- A request's variable, another one of the call's own, and what was there. -/
structure Own2 (w wr : World) (q g : Nat) (x y : Rq) (A : Option Addr) (n c : Nat) (A' : Option Addr) (n' c' : Nat) : Prop where
  v : Var wr q 29 (qvals x A n c)
  u : Var wr g 29 (qvals y A' n' c')
  below : Below w.heap.size w wr

end Go.Proofs.YtfcifblbapadpaaGreatDoor
