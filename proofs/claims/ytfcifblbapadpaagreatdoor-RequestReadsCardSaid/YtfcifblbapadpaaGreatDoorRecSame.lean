/-
  Contracts of slices.Equal over records, and record.Same. Conditions: those that each theorem names.
-/
import Derived.Test.YtfcifblbapadpaaGreatDoorRecMay
namespace Go.Proofs.YtfcifblbapadpaaGreatDoor
open Go.RowKit


theorem take_step {α : Type} {l1 l2 : List α} {k : Nat} {x : α} (h : l1.take k = l2.take k) (h1 : l1[k]? = some x) (h2 : l2[k]? = some x) : l1.take (k + 1) = l2.take (k + 1) := by
  rw [List.take_add_one, List.take_add_one, h, h1, h2]
theorem take_all {α : Type} {l1 l2 : List α} {n : Nat} (h : l1.take n = l2.take n) (h1 : l1.length = n) (h2 : l2.length = n) : l1 = l2 := by
  rw [← List.take_of_length_le (i := n) (l := l1) (by omega), ← List.take_of_length_le (i := n) (l := l2) (by omega), h]
theorem rec_ne {a b c d : ByteArray} (h : (⟨a, b⟩ : Rc) ≠ ⟨c, d⟩) : (a.toList == c.toList) = false ∨ (a = c ∧ (b.toList == d.toList) = false) := by
  by_cases h1 : a = c
  · subst h1
    refine .inr ⟨rfl, ?_⟩
    rw [← Bool.not_eq_true, eqS]
    exact fun h2 => h (by rw [h2])
  · refine .inl ?_
    rw [← Bool.not_eq_true, eqS]
    exact h1

set_option maxRecDepth 100000 in
set_option maxHeartbeats 1000000 in
theorem equal_any (A1 A2 : Option Addr) (n1 n2 c1 c2 B : Nat) (rs1 rs2 : List Rc) (m : Bool) (w : World) (hn1 : rs1.length = n1) (hn2 : rs2.length = n2) (hm : m = true ↔ rs1 = rs2) (hs1 : Seen w B A1 (rcells rs1)) (hs2 : Seen w B A2 (rcells rs2)) (hB : B ≤ w.heap.size)
    (hmax1 : n1 ≤ 9223372036854775807) (hmax2 : n2 ≤ 9223372036854775807) :
    Calls Tryz.prog 55 #[.slice A1 n1 c1, .slice A2 n2 c2] w fun e w' => e = .returned (.bool m) ∧ Below w.heap.size w w' := by
  by_cases hnn : n1 = n2
  · subst hnn
    have HN1 := Lib.hid hn1
    have HN2 := Lib.hid hn2
    have HM := Lib.hid hm
    clear hn1 hn2 hm
    go_enter Tryz.func55, Tryz.ntmps55
    have y0 : ((n1 : Int) == (n1 : Int)) = true := by simp
    go_wp2
    go_loopw [13] (fun i wr => ∃ (k : Nat), k ≤ n1 ∧ i = .int .i64 k ∧ Hid (rs1.take k = rs2.take k) ∧ Below w.heap.size w wr) (fun i _ => n1 - (intOf i).toNat)
    case atStart => exact ⟨0, by omega, rfl, (by show _ = _; simp), Below.refl _ _⟩
    case round =>
      obtain ⟨k, hk, rfl, HT, hbw⟩ := hrel
      by_cases hlt : k < n1
      · obtain ⟨r1, hr1⟩ := rec_here HN1.out hlt
        obtain ⟨r2, hr2⟩ := rec_here HN2.out hlt
        obtain ⟨b1, o1, rfl, hb1, p0, p1⟩ := rec_at (hs1.below (hbw.mono hB)) hr1
        obtain ⟨b2, o2, rfl, hb2, q0, q1⟩ := rec_at (hs2.below (hbw.mono hB)) hr2
        have hw1 : b1 < wr.heap.size := by have := hbw.size; omega
        have hw2 : b2 < wr.heap.size := by have := hbw.size; omega
        have hgd : Tryz.prog.eqGuardType Tryz.prog.depth 71 = false := by kernel_rfl
        have hbz := hbw.size
        by_cases hr : r1 = r2
        · subst hr
          have HT2 := Lib.hid (take_step HT.out hr1 hr2)
          obtain ⟨rk, rv⟩ := r1
          simp only at p0 p1 q0 q1
          clear hr1 hr2 HT
          go_wp2
          go_region_with fail
          all_goals
            go_wp2
            go_round
            case rel => first | exact ⟨k + 1, by omega, by go_num, HT2, hbw⟩ | exact ⟨k + 1, by omega, by go_num, HT2, hbw.drew⟩ | exact ⟨k + 1, by omega, by go_num, HT2, hbw.drew.drew⟩
            case measure => simp [intOf]; omega
        · obtain rfl : m = false := by
            rw [← Bool.not_eq_true]
            intro h
            rw [HM.out.1 h, hr2] at hr1
            injection hr1 with hr1
            exact hr hr1.symm
          obtain ⟨rk, rv⟩ := r1
          obtain ⟨sk, sv⟩ := r2
          have hne := rec_ne hr
          simp only at p0 p1 q0 q1
          clear hr1 hr2 HT hr
          rcases hne with hne | ⟨rfl, hne⟩
          all_goals
            go_wp2
            go_region_with fail
            all_goals
              go_wp2
              go_ret
              first | exact ⟨rfl, hbw⟩ | exact ⟨rfl, hbw.drew⟩ | exact ⟨rfl, hbw.drew.drew⟩
      · obtain rfl : m = true := HM.out.2 (take_all (n := k) HT.out (by have := HN1.out; omega) (by have := HN2.out; omega))
        go_wp2
        go_ret
        exact ⟨rfl, hbw⟩
  · obtain rfl : m = false := by
      rw [← Bool.not_eq_true]
      intro h
      have := hm.1 h
      subst this
      omega
    have y0 : ((n1 : Int) == (n2 : Int)) = false := by rw [beq_eq_false_iff_ne]; omega
    clear hn1 hn2 hm
    go_enter Tryz.func55, Tryz.ntmps55
    go_wp2
    go_ret
    exact ⟨rfl, Below.refl _ _⟩

def batchV (pid ep sq : Int) (tx : Bool) (A : Option Addr) (n c : Nat) : Array Value := #[.int .i64 pid, .int .i64 ep, .int .i64 sq, .bool tx, .slice A n c]
theorem two_new (w : World) (x y : Array Value) (T : TypeId) : Var ((w.alloc (.cells x T)).alloc (.cells y T)) w.heap.size T x ∧ Var ((w.alloc (.cells x T)).alloc (.cells y T)) (w.heap.size + 1) T y ∧ Below w.heap.size w ((w.alloc (.cells x T)).alloc (.cells y T)) :=
  ⟨(Var.new w x T).alloc _, (by have h := Var.new (w.alloc (.cells x T)) y T; rw [World.size_alloc] at h; exact h), ((Below.refl _ _).alloc (Nat.le_refl _) _).alloc (by simp) _⟩

set_option maxRecDepth 100000 in
set_option maxHeartbeats 1000000 in
theorem same_any (A1 A2 : Option Addr) (n1 n2 c1 c2 B : Nat) (rs1 rs2 : List Rc) (p1 e1 s1 p2 e2 s2 : Int) (t1 t2 m : Bool) (w : World) (hn1 : rs1.length = n1) (hn2 : rs2.length = n2) (hm : m = true ↔ (⟨p1, e1, s1, t1, rs1⟩ : Bt) = ⟨p2, e2, s2, t2, rs2⟩)
    (hs1 : Seen w B A1 (rcells rs1)) (hs2 : Seen w B A2 (rcells rs2)) (hB : B ≤ w.heap.size) (hmax1 : n1 ≤ 9223372036854775807) (hmax2 : n2 ≤ 9223372036854775807) :
    Calls Tryz.prog 33 #[.agg #[.int .i64 p1, .int .i64 e1, .int .i64 s1, .bool t1, .slice A1 n1 c1], .agg #[.int .i64 p2, .int .i64 e2, .int .i64 s2, .bool t2, .slice A2 n2 c2]] w fun e w' => e = .returned (.bool m) ∧ Below w.heap.size w w' := by
  have HM := Lib.hid hm
  clear hm
  have no : (⟨p1, e1, s1, t1, rs1⟩ : Bt) ≠ ⟨p2, e2, s2, t2, rs2⟩ → m = false := fun h => by
    rw [← Bool.not_eq_true]
    exact fun h' => h (HM.out.1 h')
  obtain ⟨v1, v2, hbel⟩ := two_new w #[.int .i64 p1, .int .i64 e1, .int .i64 s1, .bool t1, .slice A1 n1 c1] #[.int .i64 p2, .int .i64 e2, .int .i64 s2, .bool t2, .slice A2 n2 c2] 27
  by_cases h1 : p1 = p2
  · subst h1
    have y1 : (p1 == p1) = true := beq_self_eq_true _
    by_cases h2 : e1 = e2
    · subst h2
      have y2 : (e1 == e1) = true := beq_self_eq_true _
      by_cases h3 : s1 = s2
      · subst h3
        have y3 : (s1 == s1) = true := beq_self_eq_true _
        by_cases h4 : t1 = t2
        · subst h4
          have y4 : (t1 == t1) = true := beq_self_eq_true _
          go_enter Tryz.func33, Tryz.ntmps33
          go_wp2_with fail
          refine (equal_any A1 A2 n1 n2 c1 c2 B rs1 rs2 m _ hn1 hn2 ?_ (hs1.below (hbel.mono hB)) (hs2.below (hbel.mono hB)) (Nat.le_trans hB hbel.size) hmax1 hmax2).mono ?_
          · rw [HM.out]; exact ⟨fun h => by injection h, fun h => by rw [h]⟩
          rintro e w3 ⟨rfl, hx⟩
          have hb3 := hbel.trans (hx.mono hbel.size)
          clear hn1 hn2 no HM
          go_wp2
          go_ret
          exact ⟨rfl, hb3⟩
        · obtain rfl : m = false := no fun h => h4 (congrArg Bt.tx h)
          have y4 : (t1 == t2) = false := by rw [beq_eq_false_iff_ne]; exact h4
          clear hn1 hn2
          go_enter Tryz.func33, Tryz.ntmps33
          go_wp2
          go_ret
          exact ⟨rfl, hbel⟩
      · obtain rfl : m = false := no fun h => h3 (congrArg Bt.sq h)
        have y3 : (s1 == s2) = false := by rw [beq_eq_false_iff_ne]; exact h3
        clear hn1 hn2
        go_enter Tryz.func33, Tryz.ntmps33
        go_wp2
        go_ret
        exact ⟨rfl, hbel⟩
    · obtain rfl : m = false := no fun h => h2 (congrArg Bt.ep h)
      have y2 : (e1 == e2) = false := by rw [beq_eq_false_iff_ne]; exact h2
      clear hn1 hn2
      go_enter Tryz.func33, Tryz.ntmps33
      go_wp2
      go_ret
      exact ⟨rfl, hbel⟩
  · obtain rfl : m = false := no fun h => h1 (congrArg Bt.pid h)
    have y1 : (p1 == p2) = false := by rw [beq_eq_false_iff_ne]; exact h1
    clear hn1 hn2
    go_enter Tryz.func33, Tryz.ntmps33
    go_wp2
    go_ret
    exact ⟨rfl, hbel⟩
end Go.Proofs.YtfcifblbapadpaaGreatDoor
