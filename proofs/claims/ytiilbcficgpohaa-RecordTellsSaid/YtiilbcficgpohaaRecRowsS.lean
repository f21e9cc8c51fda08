/-
  The contract of the document's SameRows where both are the same rows. Conditions: those that the theorem names.
-/
import Derived.Test.YtiilbcficgpohaaRecRows
namespace Go.Proofs.Ytiilbcficgpohaa
open Go.RowKit

set_option maxRecDepth 100000 in
set_option maxHeartbeats 1000000 in
theorem same_rows_self (A1 A2 : Option Addr) (n c1 c2 B : Nat) (l : List Rw) (w : World) (hn : l.length = n) (hs1 : Seen w B A1 (rwcells l)) (hs2 : Seen w B A2 (rwcells l)) (hB : B ≤ w.heap.size) (hmax : n ≤ 60) :
    Calls Try.prog 17 #[.slice A1 n c1, .slice A2 n c2] w fun e w' => e = .returned (.bool true) ∧ Below w.heap.size w w' := by
  have HN := Lib.hid hn
  clear hn
  go_enter Try.func17, Try.ntmps17
  have y0 : ((n : Int) == (n : Int)) = true := by simp
  go_wp2
  go_loopw [5] (fun i wr => ∃ (k : Nat), k ≤ n ∧ i = .int .i64 k ∧ Below w.heap.size w wr) (fun i _ => n - (intOf i).toNat)
  case atStart => exact ⟨0, by omega, rfl, Below.refl _ _⟩
  case round =>
    obtain ⟨k, hk, rfl, hbw⟩ := hrel
    by_cases hlt : k < n
    · obtain ⟨r, hr⟩ := row_here HN.out hlt
      obtain ⟨b1, o1, rfl, hb1, p0, p1, p2, p3, p4⟩ := row_at (hs1.below (hbw.mono hB)) hr
      obtain ⟨b2, o2, rfl, hb2, q0, q1, q2, q3, q4⟩ := row_at (hs2.below (hbw.mono hB)) hr
      have hw1 : b1 < wr.heap.size := by have := hbw.size; omega
      have hw2 : b2 < wr.heap.size := by have := hbw.size; omega
      have hgd : Try.prog.eqGuardType Try.prog.depth 49 = false := by kernel_rfl
      have hbz := hbw.size
      obtain ⟨ro, rp, rq, rk, rv⟩ := r
      simp only at p0 p1 p2 p3 p4 q0 q1 q2 q3 q4
      clear hr
      go_wp2
      go_region_with fail
      all_goals
        go_wp2
        go_round
        case rel => first | exact ⟨k + 1, by omega, by go_num, hbw⟩ | exact ⟨k + 1, by omega, by go_num, hbw.drew⟩ | exact ⟨k + 1, by omega, by go_num, hbw.drew.drew⟩
        case measure => simp [intOf]; omega
    · go_wp2
      go_ret
      exact ⟨rfl, hbw⟩
end Go.Proofs.Ytiilbcficgpohaa
