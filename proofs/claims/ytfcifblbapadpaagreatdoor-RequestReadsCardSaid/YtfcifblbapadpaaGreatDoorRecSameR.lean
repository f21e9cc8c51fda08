/-
  Contracts of the document's Same. Conditions: those that each theorem names.
-/
import Derived.Test.YtfcifblbapadpaaGreatDoorRecSame
namespace Go.Proofs.YtfcifblbapadpaaGreatDoor
open Go.RowKit

set_option maxRecDepth 100000 in
set_option maxHeartbeats 2000000 in
theorem ref_same_any (A1 A2 : Option Addr) (n1 n2 c1 c2 B : Nat) (rs1 rs2 : List Rc) (p1 e1 s1 p2 e2 s2 : Int) (t1 t2 m : Bool) (w : World) (hn1 : rs1.length = n1) (hn2 : rs2.length = n2) (hm : m = true ↔ (⟨p1, e1, s1, t1, rs1⟩ : Bt) = ⟨p2, e2, s2, t2, rs2⟩)
    (hs1 : Seen w B A1 (rcells rs1)) (hs2 : Seen w B A2 (rcells rs2)) (hB : B ≤ w.heap.size) (hmax1 : n1 ≤ 9223372036854775807) (hmax2 : n2 ≤ 9223372036854775807) :
    Calls Tryz.prog 19 #[.agg #[.int .i64 p1, .int .i64 e1, .int .i64 s1, .bool t1, .slice A1 n1 c1], .agg #[.int .i64 p2, .int .i64 e2, .int .i64 s2, .bool t2, .slice A2 n2 c2]] w fun e w' => e = .returned (.bool m) ∧ Below w.heap.size w w' := by
  have HM := Lib.hid hm
  have HN1 := Lib.hid hn1
  have HN2 := Lib.hid hn2
  clear hm hn1 hn2
  have no : (⟨p1, e1, s1, t1, rs1⟩ : Bt) ≠ ⟨p2, e2, s2, t2, rs2⟩ → m = false := fun h => by
    rw [← Bool.not_eq_true]
    exact fun h' => h (HM.out.1 h')
  obtain ⟨v1, v2, hbel⟩ := two_new w #[.int .i64 p1, .int .i64 e1, .int .i64 s1, .bool t1, .slice A1 n1 c1] #[.int .i64 p2, .int .i64 e2, .int .i64 s2, .bool t2, .slice A2 n2 c2] 27
  by_cases h1 : p1 = p2
  · subst h1
    have y1 : (p1 == p1) = true := beq_self_eq_true _
    by_cases h2 : e1 = e2
    · subst h2
      have y2 : (e1 == e1) = true := beq_self_eq_true _
      by_cases h3 : s1 = s2
      · subst h3
        have y3 : (s1 == s1) = true := beq_self_eq_true _
        by_cases h4 : t1 = t2
        · subst h4
          have y4 : (t1 == t1) = true := beq_self_eq_true _
          by_cases h5 : n1 = n2
          · subst h5
            have y5 : ((n1 : Int) == (n1 : Int)) = true := beq_self_eq_true _
            go_enter Tryz.func19, Tryz.ntmps19
            go_wp2
            obtain ⟨W2, hW2⟩ : ∃ W2, W2 = (w.alloc (.cells #[.int .i64 p1, .int .i64 e1, .int .i64 s1, .bool t1, .slice A1 n1 c1] 27)).alloc (.cells #[.int .i64 p1, .int .i64 e1, .int .i64 s1, .bool t1, .slice A2 n1 c2] 27) := ⟨_, rfl⟩
            rw [← hW2] at v1 v2 hbel
            rw [← hW2]
            clear hW2
            have hz := hbel.size
            have hsa := hs1.below (hbel.mono hB)
            have hsb := hs2.below (hbel.mono hB)
            go_loopw [5] (fun i wr => ∃ (k : Nat), k ≤ n1 ∧ i = .int .i64 k ∧ Hid (rs1.take k = rs2.take k) ∧ Below W2.heap.size W2 wr) (fun i _ => n1 - (intOf i).toNat)
            case atStart => exact ⟨0, by omega, rfl, (by show _ = _; simp), Below.refl _ _⟩
            case round =>
              obtain ⟨k, hk, rfl, HT, hbw⟩ := hrel
              have hbf := hbel.trans (hbw.mono hz)
              obtain ⟨d0, d1, d2, d3, d4, f1⟩ := (v1.below hbw v1.lt).cells5
              obtain ⟨g0, g1, g2, g3, g4, f2⟩ := (v2.below hbw v2.lt).cells5
              have l1 : w.heap.size < wr.heap.size := Nat.lt_of_lt_of_le v1.lt hbw.size
              have l2 : w.heap.size + 1 < wr.heap.size := Nat.lt_of_lt_of_le v2.lt hbw.size
              by_cases hlt : k < n1
              · obtain ⟨r1, hr1⟩ := rec_here HN1.out hlt
                obtain ⟨r2, hr2⟩ := rec_here HN2.out hlt
                obtain ⟨b1, o1, rfl, hb1, p0, q0⟩ := rec_at (hsa.below (hbw.mono (Nat.le_trans hB hz))) hr1
                obtain ⟨b2, o2, rfl, hb2, p3, q3⟩ := rec_at (hsb.below (hbw.mono (Nat.le_trans hB hz))) hr2
                have hw1 : b1 < wr.heap.size := by omega
                have hw2 : b2 < wr.heap.size := by omega
                have hgd : Tryz.prog.eqGuardType Tryz.prog.depth 71 = false := by kernel_rfl
                by_cases hr : r1 = r2
                · subst hr
                  have HT2 := Lib.hid (take_step HT.out hr1 hr2)
                  obtain ⟨rk, rv⟩ := r1
                  simp only at p0 q0 p3 q3
                  clear hr1 hr2 HT
                  go_wp2
                  go_region_with fail
                  all_goals
                    go_wp2
                    go_round
                    case rel => first | exact ⟨k + 1, by omega, by go_num, HT2, hbw⟩ | exact ⟨k + 1, by omega, by go_num, HT2, hbw.drew⟩ | exact ⟨k + 1, by omega, by go_num, HT2, hbw.drew.drew⟩
                    case measure => simp [intOf]; omega
                · obtain rfl : m = false := no fun h => hr (by
                    have h' := congrArg Bt.rs h
                    simp only at h'
                    rw [h', hr2] at hr1
                    injection hr1 with hr1
                    exact hr1.symm)
                  obtain ⟨rk, rv⟩ := r1
                  obtain ⟨sk, sv⟩ := r2
                  have hne := rec_ne hr
                  simp only at p0 q0 p3 q3
                  clear hr1 hr2 HT hr
                  rcases hne with hne | ⟨rfl, hne⟩
                  all_goals
                    go_wp2
                    go_region_with fail
                    all_goals
                      go_wp2
                      go_ret
                      first | exact ⟨rfl, hbf⟩ | exact ⟨rfl, hbf.drew⟩ | exact ⟨rfl, hbf.drew.drew⟩
              · obtain rfl : m = true := HM.out.2 (by
                  have := take_all (n := k) HT.out (by have := HN1.out; omega) (by have := HN2.out; omega)
                  rw [this])
                go_wp2
                go_ret
                exact ⟨rfl, hbf⟩
          · obtain rfl : m = false := no fun h => h5 (by have := congrArg (fun b => b.rs.length) h; simp only at this; have := HN1.out; have := HN2.out; omega)
            have y5 : ((n1 : Int) == (n2 : Int)) = false := by rw [beq_eq_false_iff_ne]; omega
            go_enter Tryz.func19, Tryz.ntmps19
            go_wp2
            go_ret
            exact ⟨rfl, hbel⟩
        · obtain rfl : m = false := no fun h => h4 (congrArg Bt.tx h)
          have y4 : (t1 == t2) = false := by rw [beq_eq_false_iff_ne]; exact h4
          go_enter Tryz.func19, Tryz.ntmps19
          go_wp2
          go_ret
          exact ⟨rfl, hbel⟩
      · obtain rfl : m = false := no fun h => h3 (congrArg Bt.sq h)
        have y3 : (s1 == s2) = false := by rw [beq_eq_false_iff_ne]; exact h3
        go_enter Tryz.func19, Tryz.ntmps19
        go_wp2
        go_ret
        exact ⟨rfl, hbel⟩
    · obtain rfl : m = false := no fun h => h2 (congrArg Bt.ep h)
      have y2 : (e1 == e2) = false := by rw [beq_eq_false_iff_ne]; exact h2
      go_enter Tryz.func19, Tryz.ntmps19
      go_wp2
      go_ret
      exact ⟨rfl, hbel⟩
  · obtain rfl : m = false := no fun h => h1 (congrArg Bt.pid h)
    have y1 : (p1 == p2) = false := by rw [beq_eq_false_iff_ne]; exact h1
    go_enter Tryz.func19, Tryz.ntmps19
    go_wp2
    go_ret
    exact ⟨rfl, hbel⟩
end Go.Proofs.YtfcifblbapadpaaGreatDoor
