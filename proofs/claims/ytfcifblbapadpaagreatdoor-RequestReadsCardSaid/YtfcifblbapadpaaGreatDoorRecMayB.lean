/-
  Contracts of May and Behind, the program's and the document's. Conditions: those that each theorem names.
-/
import Derived.Test.YtfcifblbapadpaaGreatDoorRecMay
namespace Go.Proofs.YtfcifblbapadpaaGreatDoor
open Go.RowKit

theorem new_batch (w : World) (cs : Array Value) (T : TypeId) : Var (w.alloc (.cells cs T)) w.heap.size T cs := Var.new w cs T

set_option maxRecDepth 100000 in
set_option maxHeartbeats 2000000 in
theorem may_any (A : Option Addr) (n c B : Nat) (rs : List Rc) (pid ep sq : Int) (tx m : Bool) (w : World) (hn : rs.length = n) (hm : m = true ↔ Bt.Good ⟨pid, ep, sq, tx, rs⟩) (hs : Seen w B A (rcells rs)) (hB : B ≤ w.heap.size) (hmax : n ≤ 9223372036854775807)
    (hsz : ∀ y ∈ rs, y.k.size ≤ 9223372036854775807 ∧ y.v.size ≤ 9223372036854775807) :
    Calls Tryz.prog 67 #[.agg #[.int .i64 pid, .int .i64 ep, .int .i64 sq, .bool tx, .slice A n c]] w fun e w' => e = .returned (.bool m) ∧ Below w.heap.size w w' := by
  have HN := Lib.hid hn
  have HM := Lib.hid hm
  clear hn hm
  have hbel := below_new (w := w) (.cells #[.int .i64 pid, .int .i64 ep, .int .i64 sq, .bool tx, .slice A n c] 27)
  have no : ¬ Bt.Good ⟨pid, ep, sq, tx, rs⟩ → m = false := fun h => by
    rw [← Bool.not_eq_true]
    exact fun h' => h (HM.out.1 h')
  by_cases h1 : 1 ≤ pid
  · skip
    by_cases h2 : pid ≤ 8
    · skip
      by_cases h3 : 0 ≤ ep
      · skip
        by_cases h4 : ep ≤ 100
        · skip
          by_cases h5 : 1 ≤ n
          · have th5 : decide ((1 : Int) ≤ (n : Int)) = true := by simp; omega
            by_cases h6 : n ≤ 4
            · have th6 : decide ((n : Int) ≤ (4 : Int)) = true := by simp; omega
              by_cases h7 : 0 ≤ sq
              · skip
                by_cases h8 : sq + n ≤ 1048576
                · have th8 : decide (sq ≤ (1048576 : Int) - (n : Int)) = true := by simp; omega
                  go_enter Tryz.func67, Tryz.ntmps67
                  go_wp2_with fail
                  have hall := fun b hb => contains_any A n c B rs b _ HN.out hb (hs.below (hbel.mono hB)) (Nat.le_trans hB hbel.size) (by omega) hsz
                  by_cases hx : ∃ x ∈ rs, ¬ x.Good
                  · obtain rfl : m = false := no fun h => by obtain ⟨x, hx, hg⟩ := hx; exact hg (h.2.2.2.2 x hx)
                    refine (hall true ⟨fun _ => hx, fun _ => rfl⟩).mono ?_
                    rintro e w1 ⟨rfl, hb1⟩
                    have hb2 := hbel.trans (hb1.mono hbel.size)
                    go_wp2
                    go_ret
                    exact ⟨rfl, hb2⟩
                  · obtain rfl : m = true := HM.out.2 ⟨⟨h1, h2⟩, ⟨h3, h4⟩, ⟨by have := HN.out; simp only; omega, by have := HN.out; simp only; omega⟩, ⟨h7, by have := HN.out; simp only; omega⟩, fun r hr => Classical.byContradiction fun hg => hx ⟨r, hr, hg⟩⟩
                    refine (hall false ⟨by simp, fun h => absurd h hx⟩).mono ?_
                    rintro e w1 ⟨rfl, hb1⟩
                    have hb2 := hbel.trans (hb1.mono hbel.size)
                    go_wp2
                    go_ret
                    exact ⟨rfl, hb2⟩
                · obtain rfl : m = false := no fun h => by have h' := h.2.2.2.1.2; have := HN.out; simp only at h'; omega
                  have th8 : decide (sq ≤ (1048576 : Int) - (n : Int)) = false := bool_dec _ (by omega)
                  go_enter Tryz.func67, Tryz.ntmps67
                  go_wp2
                  go_ret
                  exact ⟨rfl, hbel⟩
              · obtain rfl : m = false := no fun h => by have h' := h.2.2.2.1.1; have := HN.out; simp only at h'; omega
                have th7 : decide ((0 : Int) ≤ sq) = false := bool_dec _ (by omega)
                go_enter Tryz.func67, Tryz.ntmps67
                go_wp2
                go_ret
                exact ⟨rfl, hbel⟩
            · obtain rfl : m = false := no fun h => by have h' := h.2.2.1.2; have := HN.out; simp only at h'; omega
              have th6 : decide ((n : Int) ≤ (4 : Int)) = false := bool_dec _ (by omega)
              go_enter Tryz.func67, Tryz.ntmps67
              go_wp2
              go_ret
              exact ⟨rfl, hbel⟩
          · obtain rfl : m = false := no fun h => by have h' := h.2.2.1.1; have := HN.out; simp only at h'; omega
            have th5 : decide ((1 : Int) ≤ (n : Int)) = false := bool_dec _ (by omega)
            go_enter Tryz.func67, Tryz.ntmps67
            go_wp2
            go_ret
            exact ⟨rfl, hbel⟩
        · obtain rfl : m = false := no fun h => by have h' := h.2.1.2; have := HN.out; simp only at h'; omega
          have th4 : decide (ep ≤ (100 : Int)) = false := bool_dec _ (by omega)
          go_enter Tryz.func67, Tryz.ntmps67
          go_wp2
          go_ret
          exact ⟨rfl, hbel⟩
      · obtain rfl : m = false := no fun h => by have h' := h.2.1.1; have := HN.out; simp only at h'; omega
        have th3 : decide ((0 : Int) ≤ ep) = false := bool_dec _ (by omega)
        go_enter Tryz.func67, Tryz.ntmps67
        go_wp2
        go_ret
        exact ⟨rfl, hbel⟩
    · obtain rfl : m = false := no fun h => by have h' := h.1.2; have := HN.out; simp only at h'; omega
      have th2 : decide (pid ≤ (8 : Int)) = false := bool_dec _ (by omega)
      go_enter Tryz.func67, Tryz.ntmps67
      go_wp2
      go_ret
      exact ⟨rfl, hbel⟩
  · obtain rfl : m = false := no fun h => by have h' := h.1.1; have := HN.out; simp only at h'; omega
    have th1 : decide ((1 : Int) ≤ pid) = false := bool_dec _ (by omega)
    go_enter Tryz.func67, Tryz.ntmps67
    go_wp2
    go_ret
    exact ⟨rfl, hbel⟩

end Go.Proofs.YtfcifblbapadpaaGreatDoor
