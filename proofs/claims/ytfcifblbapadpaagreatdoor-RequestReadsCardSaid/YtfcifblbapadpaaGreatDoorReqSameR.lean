/-
  The contract of the document's own Same of requests. Conditions: those that the theorem names.
-/
import Derived.Test.YtfcifblbapadpaaGreatDoorRecSameR
import Derived.Test.YtfcifblbapadpaaGreatDoorReqMem
namespace Go.Proofs.YtfcifblbapadpaaGreatDoor
open Go.RowKit

set_option maxRecDepth 100000 in
set_option maxHeartbeats 4000000 in
theorem ref_qsame_any (x y : Rq) (A1 A2 : Option Addr) (n1 n2 c1 c2 B : Nat) (m : Bool) (w : World) (hx : QIn w B x A1 n1 c1) (hy : QIn w B y A2 n2 c2) (hB : B ≤ w.heap.size) (hm : m = true ↔ x = y) :
    Calls Tryz.prog 7 #[.agg (qvals x A1 n1 c1), .agg (qvals y A2 n2 c2)] w fun e w' => e = .returned (.bool m) ∧ Below w.heap.size w w' := by
  have HM := Lib.hid hm
  clear hm
  have no : x ≠ y → m = false := fun h => by
    rw [← Bool.not_eq_true]
    exact fun h' => h (HM.out.1 h')
  obtain ⟨kind1, tid1, timeout1, pid1, ep1, part1, group1, off1, most1, yes1, ⟨bp1, be1, bs1, bt1, rs1⟩⟩ := x
  obtain ⟨kind2, tid2, timeout2, pid2, ep2, part2, group2, off2, most2, yes2, ⟨bp2, be2, bs2, bt2, rs2⟩⟩ := y
  obtain ⟨ha1, hs1, hc1, hmax1, hz1⟩ := hx
  obtain ⟨ha2, hs2, hc2, hmax2, hz2⟩ := hy
  simp only at ha1 hs1 ha2 hs2
  have HA1 := Lib.hid ha1
  have HA2 := Lib.hid ha2
  clear ha1 ha2 hz1 hz2
  simp only [qvals]
  obtain ⟨W0, hW0⟩ : ∃ W0, W0 = (w.alloc (.cells #[.int .i8 kind1, .int .i64 tid1, .int .i64 timeout1, .int .i64 pid1, .int .i64 ep1, .int .i64 part1, .int .i64 group1, .int .i64 off1, .int .i64 most1, .bool yes1, .int .i64 bp1, .int .i64 be1, .int .i64 bs1, .bool bt1, .slice A1 n1 c1] 29)).alloc (.cells #[.int .i8 kind2, .int .i64 tid2, .int .i64 timeout2, .int .i64 pid2, .int .i64 ep2, .int .i64 part2, .int .i64 group2, .int .i64 off2, .int .i64 most2, .bool yes2, .int .i64 bp2, .int .i64 be2, .int .i64 bs2, .bool bt2, .slice A2 n2 c2] 29) := ⟨_, rfl⟩
  obtain ⟨v1, v2, hbel⟩ := two_new w #[.int .i8 kind1, .int .i64 tid1, .int .i64 timeout1, .int .i64 pid1, .int .i64 ep1, .int .i64 part1, .int .i64 group1, .int .i64 off1, .int .i64 most1, .bool yes1, .int .i64 bp1, .int .i64 be1, .int .i64 bs1, .bool bt1, .slice A1 n1 c1] #[.int .i8 kind2, .int .i64 tid2, .int .i64 timeout2, .int .i64 pid2, .int .i64 ep2, .int .i64 part2, .int .i64 group2, .int .i64 off2, .int .i64 most2, .bool yes2, .int .i64 bp2, .int .i64 be2, .int .i64 bs2, .bool bt2, .slice A2 n2 c2] 29
  rw [← hW0] at v1 v2 hbel
  obtain ⟨g0, g1, g2, g3, g4, g5, g6, g7, g8, g9, g10, g11, g12, g13, g14⟩ := v1.cells15
  obtain ⟨q0, q1, q2, q3, q4, q5, q6, q7, q8, q9, q10, q11, q12, q13, q14⟩ := v2.cells15
  have z1 := v1.lt
  have z2 := v2.lt
  have HW0 := Lib.hid hW0
  clear hW0
  by_cases h0 : kind1 = kind2
  · subst h0
    have y0 : (kind1 == kind1) = true := beq_self_eq_true _
    by_cases h1 : tid1 = tid2
    · subst h1
      have y1 : (tid1 == tid1) = true := beq_self_eq_true _
      by_cases h2 : timeout1 = timeout2
      · subst h2
        have y2 : (timeout1 == timeout1) = true := beq_self_eq_true _
        by_cases h3 : pid1 = pid2
        · subst h3
          have y3 : (pid1 == pid1) = true := beq_self_eq_true _
          by_cases h4 : ep1 = ep2
          · subst h4
            have y4 : (ep1 == ep1) = true := beq_self_eq_true _
            by_cases h5 : part1 = part2
            · subst h5
              have y5 : (part1 == part1) = true := beq_self_eq_true _
              by_cases h6 : group1 = group2
              · subst h6
                have y6 : (group1 == group1) = true := beq_self_eq_true _
                by_cases h7 : off1 = off2
                · subst h7
                  have y7 : (off1 == off1) = true := beq_self_eq_true _
                  by_cases h8 : most1 = most2
                  · subst h8
                    have y8 : (most1 == most1) = true := beq_self_eq_true _
                    by_cases h9 : yes1 = yes2
                    · subst h9
                      have y9 : (yes1 == yes1) = true := beq_self_eq_true _
                      obtain ⟨u1, hu1⟩ := iff_of' ((⟨bp1, be1, bs1, bt1, rs1⟩ : Bt) = ⟨bp2, be2, bs2, bt2, rs2⟩)
                      have HU1 : Hid (m = true ↔ (⟨bp1, be1, bs1, bt1, rs1⟩ : Bt) = ⟨bp2, be2, bs2, bt2, rs2⟩) := by
                        show _ ↔ _
                        rw [HM.out]
                        exact ⟨fun h => by injection h, fun h => by rw [h]⟩
                      clear hu1 u1 no
                      go_enter Tryz.func7, Tryz.ntmps7
                      go_upto_region 1 with fail
                      rw [← HW0.out]
                      go_wp2_with fail
                      refine (ref_same_any A1 A2 n1 n2 c1 c2 B rs1 rs2 bp1 be1 bs1 bp2 be2 bs2 bt1 bt2 m _ HA1.out HA2.out HU1.out (hs1.below (hbel.mono hB)) (hs2.below (hbel.mono hB)) (Nat.le_trans hB hbel.size) hmax1 hmax2).mono ?_
                      rintro e w3 ⟨rfl, hx3⟩
                      have hb3 := hbel.trans (hx3.mono hbel.size)
                      clear HM HA1 HA2 hs1 hs2 HU1 g0 g1 g2 g3 g4 g5 g6 g7 g8 g9 g10 g11 g12 g13 g14 q0 q1 q2 q3 q4 q5 q6 q7 q8 q9 q10 q11 q12 q13 q14
                      go_wp2
                      go_ret
                      exact ⟨rfl, hb3⟩
                    · obtain rfl : m = false := no fun h => h9 (congrArg Rq.yes h)
                      have y9 : (yes1 == yes2) = false := by rw [beq_eq_false_iff_ne]; exact h9
                      clear no HM HA1 HA2 hs1 hs2
                      go_enter Tryz.func7, Tryz.ntmps7
                      go_upto_region 1 with fail
                      rw [← HW0.out]
                      go_wp2
                      go_ret
                      exact ⟨rfl, hbel⟩
                  · obtain rfl : m = false := no fun h => h8 (congrArg Rq.most h)
                    have y8 : (most1 == most2) = false := by rw [beq_eq_false_iff_ne]; exact h8
                    clear no HM HA1 HA2 hs1 hs2
                    go_enter Tryz.func7, Tryz.ntmps7
                    go_upto_region 1 with fail
                    rw [← HW0.out]
                    go_wp2
                    go_ret
                    exact ⟨rfl, hbel⟩
                · obtain rfl : m = false := no fun h => h7 (congrArg Rq.off h)
                  have y7 : (off1 == off2) = false := by rw [beq_eq_false_iff_ne]; exact h7
                  clear no HM HA1 HA2 hs1 hs2
                  go_enter Tryz.func7, Tryz.ntmps7
                  go_upto_region 1 with fail
                  rw [← HW0.out]
                  go_wp2
                  go_ret
                  exact ⟨rfl, hbel⟩
              · obtain rfl : m = false := no fun h => h6 (congrArg Rq.group h)
                have y6 : (group1 == group2) = false := by rw [beq_eq_false_iff_ne]; exact h6
                clear no HM HA1 HA2 hs1 hs2
                go_enter Tryz.func7, Tryz.ntmps7
                go_upto_region 1 with fail
                rw [← HW0.out]
                go_wp2
                go_ret
                exact ⟨rfl, hbel⟩
            · obtain rfl : m = false := no fun h => h5 (congrArg Rq.part h)
              have y5 : (part1 == part2) = false := by rw [beq_eq_false_iff_ne]; exact h5
              clear no HM HA1 HA2 hs1 hs2
              go_enter Tryz.func7, Tryz.ntmps7
              go_upto_region 1 with fail
              rw [← HW0.out]
              go_wp2
              go_ret
              exact ⟨rfl, hbel⟩
          · obtain rfl : m = false := no fun h => h4 (congrArg Rq.ep h)
            have y4 : (ep1 == ep2) = false := by rw [beq_eq_false_iff_ne]; exact h4
            clear no HM HA1 HA2 hs1 hs2
            go_enter Tryz.func7, Tryz.ntmps7
            go_upto_region 1 with fail
            rw [← HW0.out]
            go_wp2
            go_ret
            exact ⟨rfl, hbel⟩
        · obtain rfl : m = false := no fun h => h3 (congrArg Rq.pid h)
          have y3 : (pid1 == pid2) = false := by rw [beq_eq_false_iff_ne]; exact h3
          clear no HM HA1 HA2 hs1 hs2
          go_enter Tryz.func7, Tryz.ntmps7
          go_upto_region 1 with fail
          rw [← HW0.out]
          go_wp2
          go_ret
          exact ⟨rfl, hbel⟩
      · obtain rfl : m = false := no fun h => h2 (congrArg Rq.timeout h)
        have y2 : (timeout1 == timeout2) = false := by rw [beq_eq_false_iff_ne]; exact h2
        clear no HM HA1 HA2 hs1 hs2
        go_enter Tryz.func7, Tryz.ntmps7
        go_upto_region 1 with fail
        rw [← HW0.out]
        go_wp2
        go_ret
        exact ⟨rfl, hbel⟩
    · obtain rfl : m = false := no fun h => h1 (congrArg Rq.tid h)
      have y1 : (tid1 == tid2) = false := by rw [beq_eq_false_iff_ne]; exact h1
      clear no HM HA1 HA2 hs1 hs2
      go_enter Tryz.func7, Tryz.ntmps7
      go_upto_region 1 with fail
      rw [← HW0.out]
      go_wp2
      go_ret
      exact ⟨rfl, hbel⟩
  · obtain rfl : m = false := no fun h => h0 (congrArg Rq.kind h)
    have y0 : (kind1 == kind2) = false := by rw [beq_eq_false_iff_ne]; exact h0
    clear no HM HA1 HA2 hs1 hs2
    go_enter Tryz.func7, Tryz.ntmps7
    go_upto_region 1 with fail
    rw [← HW0.out]
    go_wp2
    go_ret
    exact ⟨rfl, hbel⟩
end Go.Proofs.YtfcifblbapadpaaGreatDoor
