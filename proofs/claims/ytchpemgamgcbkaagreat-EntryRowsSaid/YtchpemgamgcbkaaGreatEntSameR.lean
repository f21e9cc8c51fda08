/-
  Contracts of the document's SameProd and Same. Conditions: those that each theorem names.
-/
import Derived.Test.YtchpemgamgcbkaaGreatEntSame
import Derived.Test.YtchpemgamgcbkaaGreatRecSameR
namespace Go.Proofs.YtchpemgamgcbkaaGreat
open Go.RowKit

set_option maxRecDepth 100000 in
set_option maxHeartbeats 2000000 in
theorem ref_sprod_any (x y : Pd) (A1 A2 : Option Addr) (n1 n2 c1 c2 B : Nat) (m : Bool) (w : World) (hx : PIn w B x A1 n1 c1) (hy : PIn w B y A2 n2 c2) (hB : B ≤ w.heap.size) (hm : m = true ↔ x = y) :
    Calls Tryz.prog 17 #[.agg (pvals x A1 n1 c1), .agg (pvals y A2 n2 c2)] w fun e w' => e = .returned (.bool m) ∧ Below w.heap.size w w' := by
  have HM := Lib.hid hm
  clear hm
  have no : x ≠ y → m = false := fun h => by
    rw [← Bool.not_eq_true]
    exact fun h' => h (HM.out.1 h')
  obtain ⟨p1, e1, s1, l1⟩ := x
  obtain ⟨p2, e2, s2, l2⟩ := y
  obtain ⟨hn1, hs1, -, hmax1⟩ := hx
  obtain ⟨hn2, hs2, -, hmax2⟩ := hy
  simp only at hn1 hs1 hn2 hs2
  have HN1 := Lib.hid hn1
  have HN2 := Lib.hid hn2
  clear hn1 hn2
  simp only [pvals]
  obtain ⟨v1, v2, hbel⟩ := two_new w #[.int .i64 p1, .int .i64 e1, .int .i64 s1, .slice A1 n1 c1] #[.int .i64 p2, .int .i64 e2, .int .i64 s2, .slice A2 n2 c2] 30
  by_cases h1 : p1 = p2
  · subst h1
    have y1 : (p1 != p1) = false := bne_self_eq_false _
    by_cases h2 : e1 = e2
    · subst h2
      have y2 : (e1 != e1) = false := bne_self_eq_false _
      by_cases h3 : s1 = s2
      · subst h3
        have y3 : (s1 != s1) = false := bne_self_eq_false _
        by_cases h4 : n1 = n2
        · subst h4
          have y4 : ((n1 : Int) != (n1 : Int)) = false := bne_self_eq_false _
          go_enter Tryz.func17, Tryz.ntmps17
          go_wp2
          obtain ⟨W2, hW2⟩ : ∃ W2, W2 = (w.alloc (.cells #[.int .i64 p1, .int .i64 e1, .int .i64 s1, .slice A1 n1 c1] 30)).alloc (.cells #[.int .i64 p1, .int .i64 e1, .int .i64 s1, .slice A2 n1 c2] 30) := ⟨_, rfl⟩
          rw [← hW2] at v1 v2 hbel
          rw [← hW2]
          clear hW2
          have hz := hbel.size
          have hsa := hs1.below (hbel.mono hB)
          have hsb := hs2.below (hbel.mono hB)
          go_loopw [5] (fun i wr => ∃ (k : Nat), k ≤ n1 ∧ i = .int .i64 k ∧ Hid (l1.take k = l2.take k) ∧ Below W2.heap.size W2 wr) (fun i _ => n1 - (intOf i).toNat)
          case atStart => exact ⟨0, by omega, rfl, (by show _ = _; simp), Below.refl _ _⟩
          case round =>
            obtain ⟨k, hk, rfl, HT, hbw⟩ := hrel
            have hbf := hbel.trans (hbw.mono hz)
            obtain ⟨d0, d1, d2, d3, f1⟩ := (v1.below hbw v1.lt).cells4
            obtain ⟨g0, g1, g2, g3, f2⟩ := (v2.below hbw v2.lt).cells4
            have z1 : w.heap.size < wr.heap.size := Nat.lt_of_lt_of_le v1.lt hbw.size
            have z2 : w.heap.size + 1 < wr.heap.size := Nat.lt_of_lt_of_le v2.lt hbw.size
            by_cases hlt : k < n1
            · obtain ⟨r1, hr1⟩ := sn_here HN1.out hlt
              obtain ⟨r2, hr2⟩ := sn_here HN2.out hlt
              obtain ⟨b1, o1, rfl, hb1, p0, q0, r0⟩ := sn_at (hsa.below (hbw.mono (Nat.le_trans hB hz))) hr1
              obtain ⟨b2, o2, rfl, hb2, p3, q3, r3⟩ := sn_at (hsb.below (hbw.mono (Nat.le_trans hB hz))) hr2
              have hw1 : b1 < wr.heap.size := by omega
              have hw2 : b2 < wr.heap.size := by omega
              have hgd : Tryz.prog.eqGuardType Tryz.prog.depth 75 = false := by kernel_rfl
              by_cases hr : r1 = r2
              · subst hr
                have HT2 := Lib.hid (take_step HT.out hr1 hr2)
                obtain ⟨sq, cnt, bs⟩ := r1
                simp only at p0 q0 r0 p3 q3 r3
                clear hr1 hr2 HT
                go_wp2
                go_quiet (fail)
                all_goals
                  go_wp2
                  exact ⟨⟨k + 1, by omega, by go_num, HT2, hbw.drewN' nq⟩, by simp [intOf]; omega⟩
              · obtain rfl : m = false := no fun h => hr (by
                  have h2 := congrArg Pd.sn h
                  simp only at h2
                  rw [h2, hr2] at hr1
                  injection hr1 with hr1
                  exact hr1.symm)
                obtain ⟨sq, cnt, bs⟩ := r1
                obtain ⟨sq', cnt', bs'⟩ := r2
                have hne := sn_ne hr
                simp only at p0 q0 r0 p3 q3 r3
                clear hr1 hr2 HT hr
                rcases hne with hne | ⟨rfl, hne⟩ | ⟨rfl, rfl, hne⟩
                all_goals
                  go_wp2
                  go_quiet (fail)
                  all_goals
                    have hbq := hbf.drewN' nq
                    go_wp2
                    go_ret
                    exact ⟨rfl, hbq⟩
            · obtain rfl : m = true := HM.out.2 (by rw [take_all (n := k) HT.out (by have := HN1.out; omega) (by have := HN2.out; omega)])
              go_wp2
              go_ret
              exact ⟨rfl, hbf⟩
        · obtain rfl : m = false := no fun h => h4 (by have := congrArg (fun x => x.sn.length) h; simp only at this; rw [HN1.out, HN2.out] at this; exact this)
          have y4 : ((n1 : Int) != (n2 : Int)) = true := by rw [bne_iff_ne]; omega
          clear no HM HN1 HN2 hs1 hs2
          go_enter Tryz.func17, Tryz.ntmps17
          go_wp2
          go_ret
          exact ⟨rfl, hbel⟩
      · obtain rfl : m = false := no fun h => h3 (congrArg Pd.nx h)
        have y3 : (s1 != s2) = true := by rw [bne_iff_ne]; exact h3
        clear no HM HN1 HN2 hs1 hs2
        go_enter Tryz.func17, Tryz.ntmps17
        go_wp2
        go_ret
        exact ⟨rfl, hbel⟩
    · obtain rfl : m = false := no fun h => h2 (congrArg Pd.ep h)
      have y2 : (e1 != e2) = true := by rw [bne_iff_ne]; exact h2
      clear no HM HN1 HN2 hs1 hs2
      go_enter Tryz.func17, Tryz.ntmps17
      go_wp2
      go_ret
      exact ⟨rfl, hbel⟩
  · obtain rfl : m = false := no fun h => h1 (congrArg Pd.pid h)
    have y1 : (p1 != p2) = true := by rw [bne_iff_ne]; exact h1
    clear no HM HN1 HN2 hs1 hs2
    go_enter Tryz.func17, Tryz.ntmps17
    go_wp2
    go_ret
    exact ⟨rfl, hbel⟩

set_option maxRecDepth 100000 in
set_option maxHeartbeats 4000000 in
theorem ref_esame_any (x y : En) (A1 A2 D1 D2 : Option Addr) (n1 n2 c1 c2 m1 m2 d1 d2 B : Nat) (m : Bool) (w : World) (hx : EIn w B x A1 n1 c1 D1 m1 d1) (hy : EIn w B y A2 n2 c2 D2 m2 d2) (hB : B ≤ w.heap.size) (hm : m = true ↔ x = y) :
    Calls Tryz.prog 13 #[.agg (evals x A1 n1 c1 D1 m1 d1), .agg (evals y A2 n2 c2 D2 m2 d2)] w fun e w' => e = .returned (.bool m) ∧ Below w.heap.size w w' := by
  have HM := Lib.hid hm
  clear hm
  have no : x ≠ y → m = false := fun h => by
    rw [← Bool.not_eq_true]
    exact fun h' => h (HM.out.1 h')
  obtain ⟨k1, ⟨p1, e1, s1, t1, r1⟩, ya, x1, o1, ⟨ro1, rp1, rs1, rk1, rv1⟩, ⟨pp1, pe1, pn1, l1⟩⟩ := x
  obtain ⟨k2, ⟨p2, e2, s2, t2, r2⟩, yb, x2, o2, ⟨ro2, rp2, rs2, rk2, rv2⟩, ⟨pp2, pe2, pn2, l2⟩⟩ := y
  obtain ⟨ha1, hs1, hc1, hmax1, hz1, hkz1, hp1⟩ := hx
  obtain ⟨ha2, hs2, hc2, hmax2, hz2, hkz2, hp2⟩ := hy
  simp only at ha1 hs1 ha2 hs2 hp1 hp2
  have HA1 := Lib.hid ha1
  have HA2 := Lib.hid ha2
  have HP1 := Lib.hid hp1
  have HP2 := Lib.hid hp2
  clear ha1 ha2 hz1 hz2 hkz1 hkz2 hp1 hp2
  simp only [evals]
  obtain ⟨W0, hW0⟩ : ∃ W0, W0 = (w.alloc (.cells (evals ⟨k1, ⟨p1, e1, s1, t1, r1⟩, ya, x1, o1, ⟨ro1, rp1, rs1, rk1, rv1⟩, ⟨pp1, pe1, pn1, l1⟩⟩ A1 n1 c1 D1 m1 d1) 32)).alloc (.cells (evals ⟨k2, ⟨p2, e2, s2, t2, r2⟩, yb, x2, o2, ⟨ro2, rp2, rs2, rk2, rv2⟩, ⟨pp2, pe2, pn2, l2⟩⟩ A2 n2 c2 D2 m2 d2) 32) := ⟨_, rfl⟩
  obtain ⟨v1, v2, hbel⟩ := two_new w (evals ⟨k1, ⟨p1, e1, s1, t1, r1⟩, ya, x1, o1, ⟨ro1, rp1, rs1, rk1, rv1⟩, ⟨pp1, pe1, pn1, l1⟩⟩ A1 n1 c1 D1 m1 d1) (evals ⟨k2, ⟨p2, e2, s2, t2, r2⟩, yb, x2, o2, ⟨ro2, rp2, rs2, rk2, rv2⟩, ⟨pp2, pe2, pn2, l2⟩⟩ A2 n2 c2 D2 m2 d2) 32
  rw [← hW0] at v1 v2 hbel
  simp only [evals] at v1 v2 hW0
  obtain ⟨g0, g1, g2, g3, g4, g5, g6, g7, g8, g9, g10, g11, g12, g13, g14, g15, g16, g17, f1⟩ := v1.cells18
  obtain ⟨q0, q1, q2, q3, q4, q5, q6, q7, q8, q9, q10, q11, q12, q13, q14, q15, q16, q17, f2⟩ := v2.cells18
  have z1 := v1.lt
  have z2 := v2.lt
  have hgd : Tryz.prog.eqGuardType Tryz.prog.depth 27 = false := by kernel_rfl
  have HW0 := Lib.hid hW0
  clear hW0
  by_cases h1 : k1 = k2
  · subst h1
    have y1 : (k1 == k1) = true := beq_self_eq_true _
    go_enter Tryz.func13, Tryz.ntmps13
    go_upto_region 1 with fail
    rw [← HW0.out]
    obtain ⟨u1, hu1⟩ := iff_of ((⟨p1, e1, s1, t1, r1⟩ : Bt) = ⟨p2, e2, s2, t2, r2⟩)
    have HU1 := Lib.hid hu1
    clear hu1
    go_wp2_with fail
    refine (ref_same_any A1 A2 n1 n2 c1 c2 B r1 r2 p1 e1 s1 p2 e2 s2 t1 t2 u1 _ HA1.out HA2.out HU1.out (hs1.below (hbel.mono hB)) (hs2.below (hbel.mono hB)) (Nat.le_trans hB hbel.size) hmax1 hmax2).mono ?_
    rintro e w3 ⟨rfl, hx3⟩
    have hb3 := hbel.trans (hx3.mono hbel.size)
    have v13 := v1.below hx3 v1.lt
    have v23 := v2.below hx3 v2.lt
    clear g0 g1 g2 g3 g4 g5 g6 g7 g8 g9 g10 g11 g12 g13 g14 g15 g16 g17 q0 q1 q2 q3 q4 q5 q6 q7 q8 q9 q10 q11 q12 q13 q14 q15 q16 q17 f1 f2 z1 z2 HW0 hs1 hs2 HA1 HA2
    cases u1 with
    | false =>
      obtain rfl : m = false := no fun h => by have := HU1.out.2 (congrArg En.b h); cases this
      clear no HM HP1 HP2 HU1
      go_wp2
      go_ret
      exact ⟨rfl, hb3⟩
    | true =>
      have HBB := Lib.hid (HU1.out.1 rfl)
      clear HU1
      obtain ⟨-, -, -, -, -, -, g6, g7, g8, g9, g10, g11, g12, g13, g14, g15, g16, g17, -⟩ := v13.cells18
      obtain ⟨-, -, -, -, -, -, q6, q7, q8, q9, q10, q11, q12, q13, q14, q15, q16, q17, -⟩ := v23.cells18
      have z13 := v13.lt
      have z23 := v23.lt
      by_cases h2 : ya = yb
      · subst h2
        have y2 : (ya == ya) = true := beq_self_eq_true _
        by_cases h3 : x1 = x2
        · subst h3
          have y3 : (x1 == x1) = true := beq_self_eq_true _
          by_cases h4 : o1 = o2
          · subst h4
            have y4 : (o1 == o1) = true := beq_self_eq_true _
            by_cases h51 : ro1 = ro2
            · subst h51
              have y51 : (ro1 == ro1) = true := beq_self_eq_true _
              by_cases h52 : rp1 = rp2
              · subst h52
                have y52 : (rp1 == rp1) = true := beq_self_eq_true _
                by_cases h53 : rs1 = rs2
                · subst h53
                  have y53 : (rs1 == rs1) = true := beq_self_eq_true _
                  by_cases h54 : rk1 = rk2
                  · subst h54
                    have y54 : (rk1.toList == rk1.toList) = true := beq_self_eq_true _
                    by_cases h55 : rv1 = rv2
                    · subst h55
                      have y55 : (rv1.toList == rv1.toList) = true := beq_self_eq_true _
                      go_wp2_with fail
                      refine (ref_sprod_any ⟨pp1, pe1, pn1, l1⟩ ⟨pp2, pe2, pn2, l2⟩ D1 D2 m1 m2 d1 d2 B m _ (HP1.out.below (hb3.mono hB)) (HP2.out.below (hb3.mono hB)) (Nat.le_trans hB hb3.size) ?_).mono ?_
                      · rw [HM.out]
                        exact ⟨fun h => by injection h, fun h => by rw [h, HBB.out]⟩
                      rintro e w4 ⟨rfl, hx4⟩
                      have hb4 := hb3.trans (hx4.mono hb3.size)
                      clear no HM HP1 HP2 HBB
                      go_wp2
                      go_ret
                      exact ⟨rfl, hb4⟩
                    · obtain rfl : m = false := no fun h => h55 (congrArg (fun x => x.row.v) h)
                      have y55 : (rv1.toList == rv2.toList) = false := by rw [← Bool.not_eq_true, eqS]; exact h55
                      clear no HM HP1 HP2
                      go_wp2
                      go_ret
                      exact ⟨rfl, hb3⟩
                  · obtain rfl : m = false := no fun h => h54 (congrArg (fun x => x.row.k) h)
                    have y54 : (rk1.toList == rk2.toList) = false := by rw [← Bool.not_eq_true, eqS]; exact h54
                    clear no HM HP1 HP2
                    go_wp2
                    go_ret
                    exact ⟨rfl, hb3⟩
                · obtain rfl : m = false := no fun h => h53 (congrArg (fun x => x.row.sq) h)
                  have y53 : (rs1 == rs2) = false := by rw [beq_eq_false_iff_ne]; exact h53
                  clear no HM HP1 HP2
                  go_wp2
                  go_ret
                  exact ⟨rfl, hb3⟩
              · obtain rfl : m = false := no fun h => h52 (congrArg (fun x => x.row.pid) h)
                have y52 : (rp1 == rp2) = false := by rw [beq_eq_false_iff_ne]; exact h52
                clear no HM HP1 HP2
                go_wp2
                go_ret
                exact ⟨rfl, hb3⟩
            · obtain rfl : m = false := no fun h => h51 (congrArg (fun x => x.row.off) h)
              have y51 : (ro1 == ro2) = false := by rw [beq_eq_false_iff_ne]; exact h51
              clear no HM HP1 HP2
              go_wp2
              go_ret
              exact ⟨rfl, hb3⟩
          · obtain rfl : m = false := no fun h => h4 (congrArg En.off h)
            have y4 : (o1 == o2) = false := by rw [beq_eq_false_iff_ne]; exact h4
            clear no HM HP1 HP2
            go_wp2
            go_ret
            exact ⟨rfl, hb3⟩
        · obtain rfl : m = false := no fun h => h3 (congrArg En.nx h)
          have y3 : (x1 == x2) = false := by rw [beq_eq_false_iff_ne]; exact h3
          clear no HM HP1 HP2
          go_wp2
          go_ret
          exact ⟨rfl, hb3⟩
      · obtain rfl : m = false := no fun h => h2 (congrArg En.yes h)
        have y2 : (ya == yb) = false := by rw [beq_eq_false_iff_ne]; exact h2
        clear no HM HP1 HP2
        go_wp2
        go_ret
        exact ⟨rfl, hb3⟩
  · obtain rfl : m = false := no fun h => h1 (congrArg En.kind h)
    have y1 : (k1 == k2) = false := by rw [beq_eq_false_iff_ne]; exact h1
    clear no HM HA1 HA2 HP1 HP2 hs1 hs2
    go_enter Tryz.func13, Tryz.ntmps13
    go_upto_region 1 with fail
    rw [← HW0.out]
    go_wp2
    go_ret
    exact ⟨rfl, hbel⟩
end Go.Proofs.YtchpemgamgcbkaaGreat
