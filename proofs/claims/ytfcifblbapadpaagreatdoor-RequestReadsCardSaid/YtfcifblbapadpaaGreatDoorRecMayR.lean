/-
  The contract of the document's May. Conditions: those that the theorem names.
-/
import Derived.Test.YtfcifblbapadpaaGreatDoorRecMay
namespace Go.Proofs.YtfcifblbapadpaaGreatDoor
open Go.RowKit

set_option maxRecDepth 100000 in
set_option maxHeartbeats 4000000 in
theorem ref_may_any (A : Option Addr) (n c B : Nat) (rs : List Rc) (pid ep sq : Int) (tx m : Bool) (w : World) (hn : rs.length = n) (hm : m = true ↔ Bt.Good ⟨pid, ep, sq, tx, rs⟩) (hs : Seen w B A (rcells rs)) (hB : B ≤ w.heap.size) (hmax : n ≤ 9223372036854775807)
    (hsz : ∀ y ∈ rs, y.k.size ≤ 9223372036854775807 ∧ y.v.size ≤ 9223372036854775807) :
    Calls Tryz.prog 29 #[.agg #[.int .i64 pid, .int .i64 ep, .int .i64 sq, .bool tx, .slice A n c]] w fun e w' => e = .returned (.bool m) ∧ Below w.heap.size w w' := by
  have HN := Lib.hid hn
  have HM := Lib.hid hm
  clear hn hm
  have hbel := below_new (w := w) (.cells #[.int .i64 pid, .int .i64 ep, .int .i64 sq, .bool tx, .slice A n c] 27)
  have no : ¬ Bt.Good ⟨pid, ep, sq, tx, rs⟩ → m = false := fun h => by
    rw [← Bool.not_eq_true]
    exact fun h' => h (HM.out.1 h')
  by_cases h1 : 1 ≤ pid
  · have t1 : decide (pid < (1 : Int)) = false := bool_dec _ (by omega)
    by_cases h2 : pid ≤ 8
    · have t2 : decide ((8 : Int) < pid) = false := bool_dec _ (by omega)
      by_cases h3 : 0 ≤ ep
      · have t3 : decide (ep < (0 : Int)) = false := bool_dec _ (by omega)
        by_cases h4 : ep ≤ 100
        · have t4 : decide ((100 : Int) < ep) = false := bool_dec _ (by omega)
          by_cases h5 : 0 ≤ sq
          · have t5 : decide (sq < (0 : Int)) = false := bool_dec _ (by omega)
            by_cases h6 : sq ≤ 1048576
            · have t6 : decide ((1048576 : Int) < sq) = false := bool_dec _ (by omega)
              by_cases h7 : 1 ≤ n
              · have t7 : decide ((n : Int) < (1 : Int)) = false := bool_dec _ (by omega)
                by_cases h8 : n ≤ 4
                · have t8 : decide ((4 : Int) < (n : Int)) = false := bool_dec _ (by omega)
                  by_cases h9 : sq + n ≤ 1048576
                  · have t9 : decide ((1048576 : Int) < sq + (n : Int)) = false := bool_dec _ (by omega)
                    go_enter Tryz.func29, Tryz.ntmps29
                    go_wp2
                    go_loop [3] (fun i => ∃ k : Nat, k ≤ n ∧ i = .int .i64 k ∧ Hid (∀ x ∈ rs.take k, x.Good)) (fun i => n - (intOf i).toNat)
                    case atStart => exact ⟨0, by omega, rfl, by intro x hx; simp at hx⟩
                    case round =>
                      obtain ⟨k, hk, rfl, HG⟩ := hrel
                      by_cases hlt : k < n
                      · obtain ⟨r, hr⟩ := rec_here HN.out hlt
                        obtain ⟨b, off, rfl, hbB, d0, d1⟩ := rec_at hs hr
                        obtain ⟨z0, z1⟩ := hsz r (List.mem_of_getElem? hr)
                        have hbw : b < w.heap.size := by omega
                        have HR := Lib.hid hr
                        obtain ⟨rk, rv⟩ := r
                        simp only at d0 d1 z0 z1
                        clear hr
                        by_cases g1 : rk.size ≤ 16
                        · have u1 : decide ((16 : Int) < (rk.size : Int)) = false := bool_dec _ (by omega)
                          by_cases g2 : rv.size ≤ 16
                          · have u2 : decide ((16 : Int) < (rv.size : Int)) = false := bool_dec _ (by omega)
                            go_wp2
                            go_round
                            case rel =>
                              refine ⟨k + 1, by omega, by go_num, ?_⟩
                              intro x hx
                              rw [List.take_add_one, HR.out] at hx
                              rcases List.mem_append.1 hx with hx | hx
                              · exact HG.out x hx
                              · simp at hx; subst hx; exact ⟨g1, g2⟩
                            case measure => simp [intOf]; omega
                          · have u2 : decide ((16 : Int) < (rv.size : Int)) = true := by simp; omega
                            obtain rfl : m = false := no fun h => g2 (h.2.2.2.2 _ (List.mem_of_getElem? HR.out)).2
                            go_wp2
                            go_ret
                            exact ⟨rfl, hbel⟩
                        · have u1 : decide ((16 : Int) < (rk.size : Int)) = true := by simp; omega
                          obtain rfl : m = false := no fun h => g1 (h.2.2.2.2 _ (List.mem_of_getElem? HR.out)).1
                          go_wp2
                          go_ret
                          exact ⟨rfl, hbel⟩
                      · obtain rfl : m = true := HM.out.2 ⟨⟨h1, h2⟩, ⟨h3, h4⟩, ⟨by have := HN.out; simp only; omega, by have := HN.out; simp only; omega⟩, ⟨h5, by have := HN.out; simp only; omega⟩, fun r hr => HG.out r (by rw [List.take_of_length_le (by have := HN.out; omega)]; exact hr)⟩
                        go_wp2
                        go_ret
                        exact ⟨rfl, hbel⟩
                  · obtain rfl : m = false := no fun h => by have h' := h.2.2.2.1.2; have := HN.out; simp only at h'; omega
                    have t9 : decide ((1048576 : Int) < sq + (n : Int)) = true := by simp; omega
                    go_enter Tryz.func29, Tryz.ntmps29
                    go_wp2
                    go_ret
                    exact ⟨rfl, hbel⟩
                · obtain rfl : m = false := no fun h => by have h' := h.2.2.1.2; have := HN.out; simp only at h'; omega
                  have t8 : decide ((4 : Int) < (n : Int)) = true := by simp; omega
                  go_enter Tryz.func29, Tryz.ntmps29
                  go_wp2
                  go_ret
                  exact ⟨rfl, hbel⟩
              · obtain rfl : m = false := no fun h => by have h' := h.2.2.1.1; have := HN.out; simp only at h'; omega
                have t7 : decide ((n : Int) < (1 : Int)) = true := by simp; omega
                go_enter Tryz.func29, Tryz.ntmps29
                go_wp2
                go_ret
                exact ⟨rfl, hbel⟩
            · obtain rfl : m = false := no fun h => by have h' := h.2.2.2.1.2; have := HN.out; simp only at h'; omega
              have t6 : decide ((1048576 : Int) < sq) = true := by simp; omega
              go_enter Tryz.func29, Tryz.ntmps29
              go_wp2
              go_ret
              exact ⟨rfl, hbel⟩
          · obtain rfl : m = false := no fun h => by have h' := h.2.2.2.1.1; have := HN.out; simp only at h'; omega
            have t5 : decide (sq < (0 : Int)) = true := by simp; omega
            go_enter Tryz.func29, Tryz.ntmps29
            go_wp2
            go_ret
            exact ⟨rfl, hbel⟩
        · obtain rfl : m = false := no fun h => by have h' := h.2.1.2; have := HN.out; simp only at h'; omega
          have t4 : decide ((100 : Int) < ep) = true := by simp; omega
          go_enter Tryz.func29, Tryz.ntmps29
          go_wp2
          go_ret
          exact ⟨rfl, hbel⟩
      · obtain rfl : m = false := no fun h => by have h' := h.2.1.1; have := HN.out; simp only at h'; omega
        have t3 : decide (ep < (0 : Int)) = true := by simp; omega
        go_enter Tryz.func29, Tryz.ntmps29
        go_wp2
        go_ret
        exact ⟨rfl, hbel⟩
    · obtain rfl : m = false := no fun h => by have h' := h.1.2; have := HN.out; simp only at h'; omega
      have t2 : decide ((8 : Int) < pid) = true := by simp; omega
      go_enter Tryz.func29, Tryz.ntmps29
      go_wp2
      go_ret
      exact ⟨rfl, hbel⟩
  · obtain rfl : m = false := no fun h => by have h' := h.1.1; have := HN.out; simp only at h'; omega
    have t1 : decide (pid < (1 : Int)) = true := by simp; omega
    go_enter Tryz.func29, Tryz.ntmps29
    go_wp2
    go_ret
    exact ⟨rfl, hbel⟩
end Go.Proofs.YtfcifblbapadpaaGreatDoor
