/-
  Contracts of slices.Equal over batches that were seen, and of entry's SameProd. Conditions: those that each theorem names.
-/
import Derived.Test.YtchpemgamgcbkaaGreatEntG7
import Derived.Test.YtchpemgamgcbkaaGreatRecSame
namespace Go.Proofs.YtchpemgamgcbkaaGreat
open Go.RowKit

set_option maxRecDepth 100000 in
set_option maxHeartbeats 1000000 in
theorem sequal_any (A1 A2 : Option Addr) (n1 n2 c1 c2 B : Nat) (l1 l2 : List Sn) (m : Bool) (w : World) (hn1 : l1.length = n1) (hn2 : l2.length = n2) (hm : m = true ↔ l1 = l2) (hs1 : Seen w B A1 (scells l1)) (hs2 : Seen w B A2 (scells l2)) (hB : B ≤ w.heap.size)
    (hmax1 : n1 ≤ 9223372036854775807) (hmax2 : n2 ≤ 9223372036854775807) :
    Calls Tryz.prog 45 #[.slice A1 n1 c1, .slice A2 n2 c2] w fun e w' => e = .returned (.bool m) ∧ Below w.heap.size w w' := by
  by_cases hnn : n1 = n2
  · subst hnn
    have HN1 := Lib.hid hn1
    have HN2 := Lib.hid hn2
    have HM := Lib.hid hm
    clear hn1 hn2 hm
    go_enter Tryz.func45, Tryz.ntmps45
    have y0 : ((n1 : Int) == (n1 : Int)) = true := by simp
    go_wp2
    go_loopw [13] (fun i wr => ∃ (k : Nat), k ≤ n1 ∧ i = .int .i64 k ∧ Hid (l1.take k = l2.take k) ∧ Below w.heap.size w wr) (fun i _ => n1 - (intOf i).toNat)
    case atStart => exact ⟨0, by omega, rfl, (by show _ = _; simp), Below.refl _ _⟩
    case round =>
      obtain ⟨k, hk, rfl, HT, hbw⟩ := hrel
      by_cases hlt : k < n1
      · obtain ⟨r1, hr1⟩ := sn_here HN1.out hlt
        obtain ⟨r2, hr2⟩ := sn_here HN2.out hlt
        obtain ⟨b1, o1, rfl, hb1, p0, p1, p2⟩ := sn_at (hs1.below (hbw.mono hB)) hr1
        obtain ⟨b2, o2, rfl, hb2, q0, q1, q2⟩ := sn_at (hs2.below (hbw.mono hB)) hr2
        have hw1 : b1 < wr.heap.size := by have := hbw.size; omega
        have hw2 : b2 < wr.heap.size := by have := hbw.size; omega
        have hgd : Tryz.prog.eqGuardType Tryz.prog.depth 75 = false := by kernel_rfl
        have hbz := hbw.size
        by_cases hr : r1 = r2
        · subst hr
          have HT2 := Lib.hid (take_step HT.out hr1 hr2)
          obtain ⟨sq, cnt, bs⟩ := r1
          simp only at p0 p1 p2 q0 q1 q2
          clear hr1 hr2 HT
          go_wp2
          go_region_with fail
          all_goals
            go_wp2
            go_round
            case rel => first | exact ⟨k + 1, by omega, by go_num, HT2, hbw⟩ | exact ⟨k + 1, by omega, by go_num, HT2, hbw.drew⟩ | exact ⟨k + 1, by omega, by go_num, HT2, hbw.drew.drew⟩
            case measure => simp [intOf]; omega
        · obtain rfl : m = false := by
            rw [← Bool.not_eq_true]
            intro h
            rw [HM.out.1 h, hr2] at hr1
            injection hr1 with hr1
            exact hr hr1.symm
          obtain ⟨sq, cnt, bs⟩ := r1
          obtain ⟨sq', cnt', bs'⟩ := r2
          have hne := sn_ne hr
          simp only at p0 p1 p2 q0 q1 q2
          clear hr1 hr2 HT hr
          rcases hne with hne | ⟨rfl, hne⟩ | ⟨rfl, rfl, hne⟩
          all_goals
            go_wp2
            go_region_with fail
            all_goals
              go_wp2
              go_ret
              first | exact ⟨rfl, hbw⟩ | exact ⟨rfl, hbw.drew⟩ | exact ⟨rfl, hbw.drew.drew⟩
      · obtain rfl : m = true := HM.out.2 (take_all (n := k) HT.out (by have := HN1.out; omega) (by have := HN2.out; omega))
        go_wp2
        go_ret
        exact ⟨rfl, hbw⟩
  · obtain rfl : m = false := by
      rw [← Bool.not_eq_true]
      intro h
      have := hm.1 h
      subst this
      omega
    have y0 : ((n1 : Int) == (n2 : Int)) = false := by rw [beq_eq_false_iff_ne]; omega
    clear hn1 hn2 hm
    go_enter Tryz.func45, Tryz.ntmps45
    go_wp2
    go_ret
    exact ⟨rfl, Below.refl _ _⟩

set_option maxRecDepth 100000 in
set_option maxHeartbeats 1000000 in
theorem sprod_any (x y : Pd) (A1 A2 : Option Addr) (n1 n2 c1 c2 B : Nat) (m : Bool) (w : World) (hx : PIn w B x A1 n1 c1) (hy : PIn w B y A2 n2 c2) (hB : B ≤ w.heap.size) (hm : m = true ↔ x = y) :
    Calls Tryz.prog 16 #[.agg (pvals x A1 n1 c1), .agg (pvals y A2 n2 c2)] w fun e w' => e = .returned (.bool m) ∧ Below w.heap.size w w' := by
  have HM := Lib.hid hm
  clear hm
  have no : x ≠ y → m = false := fun h => by
    rw [← Bool.not_eq_true]
    exact fun h' => h (HM.out.1 h')
  obtain ⟨p1, e1, s1, l1⟩ := x
  obtain ⟨p2, e2, s2, l2⟩ := y
  obtain ⟨hn1, hs1, hc1, hmax1⟩ := hx
  obtain ⟨hn2, hs2, hc2, hmax2⟩ := hy
  simp only at hn1 hs1 hn2 hs2
  simp only [pvals]
  obtain ⟨v1, v2, hbel⟩ := two_new w #[.int .i64 p1, .int .i64 e1, .int .i64 s1, .slice A1 n1 c1] #[.int .i64 p2, .int .i64 e2, .int .i64 s2, .slice A2 n2 c2] 30
  by_cases h1 : p1 = p2
  · subst h1
    have y1 : (p1 == p1) = true := beq_self_eq_true _
    by_cases h2 : e1 = e2
    · subst h2
      have y2 : (e1 == e1) = true := beq_self_eq_true _
      by_cases h3 : s1 = s2
      · subst h3
        have y3 : (s1 == s1) = true := beq_self_eq_true _
        go_enter Tryz.func16, Tryz.ntmps16
        go_wp2_with fail
        refine (sequal_any A1 A2 n1 n2 c1 c2 B l1 l2 m _ hn1 hn2 ?_ (hs1.below (hbel.mono hB)) (hs2.below (hbel.mono hB)) (Nat.le_trans hB hbel.size) hmax1 hmax2).mono ?_
        · rw [HM.out]; exact ⟨fun h => by injection h, fun h => by rw [h]⟩
        rintro e w3 ⟨rfl, hx⟩
        have hb3 := hbel.trans (hx.mono hbel.size)
        clear hn1 hn2 no HM
        go_wp2
        go_ret
        exact ⟨rfl, hb3⟩
      · obtain rfl : m = false := no fun h => h3 (congrArg Pd.nx h)
        have y3 : (s1 == s2) = false := by rw [beq_eq_false_iff_ne]; exact h3
        clear hn1 hn2 no HM
        go_enter Tryz.func16, Tryz.ntmps16
        go_wp2
        go_ret
        exact ⟨rfl, hbel⟩
    · obtain rfl : m = false := no fun h => h2 (congrArg Pd.ep h)
      have y2 : (e1 == e2) = false := by rw [beq_eq_false_iff_ne]; exact h2
      clear hn1 hn2 no HM
      go_enter Tryz.func16, Tryz.ntmps16
      go_wp2
      go_ret
      exact ⟨rfl, hbel⟩
  · obtain rfl : m = false := no fun h => h1 (congrArg Pd.pid h)
    have y1 : (p1 == p2) = false := by rw [beq_eq_false_iff_ne]; exact h1
    clear hn1 hn2 no HM
    go_enter Tryz.func16, Tryz.ntmps16
    go_wp2
    go_ret
    exact ⟨rfl, hbel⟩
end Go.Proofs.YtchpemgamgcbkaaGreat
