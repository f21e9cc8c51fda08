/-
  Contracts of slices.Equal over rows, and of reply's Same. Conditions: those that each theorem names.
-/
import Derived.Test.YtplpagnnlggfgaaDoorRepMem
namespace Go.Proofs.YtplpagnnlggfgaaDoor
open Go.RowKit

theorem take_step {α : Type} {l1 l2 : List α} {k : Nat} {x : α} (h : l1.take k = l2.take k) (h1 : l1[k]? = some x) (h2 : l2[k]? = some x) : l1.take (k + 1) = l2.take (k + 1) := by
  rw [List.take_add_one, List.take_add_one, h, h1, h2]
theorem take_all {α : Type} {l1 l2 : List α} {n : Nat} (h : l1.take n = l2.take n) (h1 : l1.length = n) (h2 : l2.length = n) : l1 = l2 := by
  rw [← List.take_of_length_le (i := n) (l := l1) (by omega), ← List.take_of_length_le (i := n) (l := l2) (by omega), h]
theorem row_ne {x y z x' y' z' : Int} {a b c d : ByteArray} (h : (⟨x, y, z, a, b⟩ : Rw) ≠ ⟨x', y', z', c, d⟩) : (x == x') = false ∨ (x = x' ∧ (y == y') = false) ∨ (x = x' ∧ y = y' ∧ (z == z') = false) ∨ (x = x' ∧ y = y' ∧ z = z' ∧ (a.toList == c.toList) = false) ∨ (x = x' ∧ y = y' ∧ z = z' ∧ a = c ∧ (b.toList == d.toList) = false) := by
  by_cases h1 : x = x'
  · by_cases h2 : y = y'
    · by_cases h3 : z = z'
      · by_cases h4 : a = c
        · refine .inr (.inr (.inr (.inr ⟨h1, h2, h3, h4, ?_⟩)))
          rw [← Bool.not_eq_true, eqS]
          exact fun h5 => h (by rw [h1, h2, h3, h4, h5])
        · refine .inr (.inr (.inr (.inl ⟨h1, h2, h3, ?_⟩)))
          rw [← Bool.not_eq_true, eqS]
          exact h4
      · exact .inr (.inr (.inl ⟨h1, h2, by rw [beq_eq_false_iff_ne]; exact h3⟩))
    · exact .inr (.inl ⟨h1, by rw [beq_eq_false_iff_ne]; exact h2⟩)
  · exact .inl (by rw [beq_eq_false_iff_ne]; exact h1)

set_option maxRecDepth 100000 in
set_option maxHeartbeats 1000000 in
theorem equal_any (A1 A2 : Option Addr) (n1 n2 c1 c2 B : Nat) (rs1 rs2 : List Rw) (m : Bool) (w : World) (hn1 : rs1.length = n1) (hn2 : rs2.length = n2) (hm : m = true ↔ rs1 = rs2) (hs1 : Seen w B A1 (rwcells rs1)) (hs2 : Seen w B A2 (rwcells rs2)) (hB : B ≤ w.heap.size)
    (hmax1 : n1 ≤ 9223372036854775807) (hmax2 : n2 ≤ 9223372036854775807) :
    Calls Tryd.prog 16 #[.slice A1 n1 c1, .slice A2 n2 c2] w fun e w' => e = .returned (.bool m) ∧ Below w.heap.size w w' := by
  by_cases hnn : n1 = n2
  · subst hnn
    have HN1 := Lib.hid hn1
    have HN2 := Lib.hid hn2
    have HM := Lib.hid hm
    clear hn1 hn2 hm
    go_enter Tryd.func16, Tryd.ntmps16
    have y0 : ((n1 : Int) == (n1 : Int)) = true := by simp
    go_wp2
    go_loopw [13] (fun i wr => ∃ (k : Nat), k ≤ n1 ∧ i = .int .i64 k ∧ Hid (rs1.take k = rs2.take k) ∧ Below w.heap.size w wr) (fun i _ => n1 - (intOf i).toNat)
    case atStart => exact ⟨0, by omega, rfl, (by show _ = _; simp), Below.refl _ _⟩
    case round =>
      obtain ⟨k, hk, rfl, HT, hbw⟩ := hrel
      by_cases hlt : k < n1
      · obtain ⟨r1, hr1⟩ := row_here HN1.out hlt
        obtain ⟨r2, hr2⟩ := row_here HN2.out hlt
        obtain ⟨b1, o1, rfl, hb1, p0, p1, p2, p3, p4⟩ := row_at (hs1.below (hbw.mono hB)) hr1
        obtain ⟨b2, o2, rfl, hb2, q0, q1, q2, q3, q4⟩ := row_at (hs2.below (hbw.mono hB)) hr2
        have hw1 : b1 < wr.heap.size := by have := hbw.size; omega
        have hw2 : b2 < wr.heap.size := by have := hbw.size; omega
        have hgd : Tryd.prog.eqGuardType Tryd.prog.depth 37 = false := by kernel_rfl
        have hbz := hbw.size
        by_cases hr : r1 = r2
        · subst hr
          have HT2 := Lib.hid (take_step HT.out hr1 hr2)
          obtain ⟨ra, rb, rc, rk, rv⟩ := r1
          simp only at p0 p1 p2 p3 p4 q0 q1 q2 q3 q4
          clear hr1 hr2 HT
          go_wp2
          go_region_with fail
          all_goals
            go_wp2
            go_round
            case rel => first | exact ⟨k + 1, by omega, by go_num, HT2, hbw⟩ | exact ⟨k + 1, by omega, by go_num, HT2, hbw.drew⟩ | exact ⟨k + 1, by omega, by go_num, HT2, hbw.drew.drew⟩
            case measure => simp [intOf]; omega
        · obtain rfl : m = false := by
            rw [← Bool.not_eq_true]
            intro h
            rw [HM.out.1 h, hr2] at hr1
            injection hr1 with hr1
            exact hr hr1.symm
          obtain ⟨ra, rb, rc, rk, rv⟩ := r1
          obtain ⟨sa, sb, sc, sk, sv⟩ := r2
          have hne := row_ne hr
          simp only at p0 p1 p2 p3 p4 q0 q1 q2 q3 q4
          clear hr1 hr2 HT hr
          rcases hne with hne | ⟨rfl, hne⟩ | ⟨rfl, rfl, hne⟩ | ⟨rfl, rfl, rfl, hne⟩ | ⟨rfl, rfl, rfl, rfl, hne⟩
          all_goals
            go_wp2
            go_region_with fail
            all_goals
              go_wp2
              go_ret
              first | exact ⟨rfl, hbw⟩ | exact ⟨rfl, hbw.drew⟩ | exact ⟨rfl, hbw.drew.drew⟩
      · obtain rfl : m = true := HM.out.2 (take_all (n := k) HT.out (by have := HN1.out; omega) (by have := HN2.out; omega))
        go_wp2
        go_ret
        exact ⟨rfl, hbw⟩
  · obtain rfl : m = false := by
      rw [← Bool.not_eq_true]
      intro h
      have := hm.1 h
      subst this
      omega
    have y0 : ((n1 : Int) == (n2 : Int)) = false := by rw [beq_eq_false_iff_ne]; omega
    clear hn1 hn2 hm
    go_enter Tryd.func16, Tryd.ntmps16
    go_wp2
    go_ret
    exact ⟨rfl, Below.refl _ _⟩

set_option maxRecDepth 100000 in
set_option maxHeartbeats 4000000 in
theorem psame_any (x y : Rp) (A1 A2 : Option Addr) (n1 n2 c1 c2 B : Nat) (m : Bool) (w : World) (hx : RIn w B x A1 n1 c1) (hy : RIn w B y A2 n2 c2) (hB : B ≤ w.heap.size) (hm : m = true ↔ x = y) :
    Calls Tryd.prog 10 #[.agg (rpvals x A1 n1 c1), .agg (rpvals y A2 n2 c2)] w fun e w' => e = .returned (.bool m) ∧ Below w.heap.size w w' := by
  have HM := Lib.hid hm
  clear hm
  have no : x ≠ y → m = false := fun h => by
    rw [← Bool.not_eq_true]
    exact fun h' => h (HM.out.1 h')
  obtain ⟨kind1, e1, pid1, ep1, off1, rs1⟩ := x
  obtain ⟨kind2, e2, pid2, ep2, off2, rs2⟩ := y
  obtain ⟨ha1, hs1, hc1, hmax1, hz1⟩ := hx
  obtain ⟨ha2, hs2, hc2, hmax2, hz2⟩ := hy
  simp only at ha1 hs1 ha2 hs2
  have HA1 := Lib.hid ha1
  have HA2 := Lib.hid ha2
  clear ha1 ha2 hz1 hz2
  simp only [rpvals]
  obtain ⟨W0, hW0⟩ : ∃ W0, W0 = (w.alloc (.cells #[.int .i8 kind1, .int .i64 e1, .int .i64 pid1, .int .i64 ep1, .int .i64 off1, .slice A1 n1 c1] 26)).alloc (.cells #[.int .i8 kind2, .int .i64 e2, .int .i64 pid2, .int .i64 ep2, .int .i64 off2, .slice A2 n2 c2] 26) := ⟨_, rfl⟩
  obtain ⟨v1, v2, hbel⟩ := two_new w #[.int .i8 kind1, .int .i64 e1, .int .i64 pid1, .int .i64 ep1, .int .i64 off1, .slice A1 n1 c1] #[.int .i8 kind2, .int .i64 e2, .int .i64 pid2, .int .i64 ep2, .int .i64 off2, .slice A2 n2 c2] 26
  rw [← hW0] at v1 v2 hbel
  obtain ⟨g0, g1, g2, g3, g4, g5⟩ := v1.cells6
  obtain ⟨q0, q1, q2, q3, q4, q5⟩ := v2.cells6
  have z1 := v1.lt
  have z2 := v2.lt
  have HW0 := Lib.hid hW0
  clear hW0
  by_cases h0 : kind1 = kind2
  · subst h0
    have y0 : (kind1 == kind1) = true := beq_self_eq_true _
    by_cases h1 : e1 = e2
    · subst h1
      have y1 : (e1 == e1) = true := beq_self_eq_true _
      by_cases h2 : pid1 = pid2
      · subst h2
        have y2 : (pid1 == pid1) = true := beq_self_eq_true _
        by_cases h3 : ep1 = ep2
        · subst h3
          have y3 : (ep1 == ep1) = true := beq_self_eq_true _
          by_cases h4 : off1 = off2
          · subst h4
            have y4 : (off1 == off1) = true := beq_self_eq_true _
            have HU1 : Hid (m = true ↔ rs1 = rs2) := by
              show _ ↔ _
              rw [HM.out]
              exact ⟨fun h => by injection h, fun h => by rw [h]⟩
            clear no
            go_enter Tryd.func10, Tryd.ntmps10
            go_upto_region 1 with fail
            rw [← HW0.out]
            go_wp2_with fail
            refine (equal_any A1 A2 n1 n2 c1 c2 B rs1 rs2 m _ HA1.out HA2.out HU1.out (hs1.below (hbel.mono hB)) (hs2.below (hbel.mono hB)) (Nat.le_trans hB hbel.size) hmax1 hmax2).mono ?_
            rintro e w3 ⟨rfl, hx3⟩
            have hb3 := hbel.trans (hx3.mono hbel.size)
            clear HM HA1 HA2 hs1 hs2 HU1 g0 g1 g2 g3 g4 g5 q0 q1 q2 q3 q4 q5
            go_wp2
            go_ret
            exact ⟨rfl, hb3⟩
          · obtain rfl : m = false := no fun h => h4 (congrArg Rp.off h)
            have y4 : (off1 == off2) = false := by rw [beq_eq_false_iff_ne]; exact h4
            clear no HM HA1 HA2 hs1 hs2
            go_enter Tryd.func10, Tryd.ntmps10
            go_upto_region 1 with fail
            rw [← HW0.out]
            go_wp2
            go_ret
            exact ⟨rfl, hbel⟩
        · obtain rfl : m = false := no fun h => h3 (congrArg Rp.ep h)
          have y3 : (ep1 == ep2) = false := by rw [beq_eq_false_iff_ne]; exact h3
          clear no HM HA1 HA2 hs1 hs2
          go_enter Tryd.func10, Tryd.ntmps10
          go_upto_region 1 with fail
          rw [← HW0.out]
          go_wp2
          go_ret
          exact ⟨rfl, hbel⟩
      · obtain rfl : m = false := no fun h => h2 (congrArg Rp.pid h)
        have y2 : (pid1 == pid2) = false := by rw [beq_eq_false_iff_ne]; exact h2
        clear no HM HA1 HA2 hs1 hs2
        go_enter Tryd.func10, Tryd.ntmps10
        go_upto_region 1 with fail
        rw [← HW0.out]
        go_wp2
        go_ret
        exact ⟨rfl, hbel⟩
    · obtain rfl : m = false := no fun h => h1 (congrArg Rp.e h)
      have y1 : (e1 == e2) = false := by rw [beq_eq_false_iff_ne]; exact h1
      clear no HM HA1 HA2 hs1 hs2
      go_enter Tryd.func10, Tryd.ntmps10
      go_upto_region 1 with fail
      rw [← HW0.out]
      go_wp2
      go_ret
      exact ⟨rfl, hbel⟩
  · obtain rfl : m = false := no fun h => h0 (congrArg Rp.kind h)
    have y0 : (kind1 == kind2) = false := by rw [beq_eq_false_iff_ne]; exact h0
    clear no HM HA1 HA2 hs1 hs2
    go_enter Tryd.func10, Tryd.ntmps10
    go_upto_region 1 with fail
    rw [← HW0.out]
    go_wp2
    go_ret
    exact ⟨rfl, hbel⟩
end Go.Proofs.YtplpagnnlggfgaaDoor
