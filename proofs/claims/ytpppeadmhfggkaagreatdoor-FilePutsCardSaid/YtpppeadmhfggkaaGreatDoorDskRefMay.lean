/-
  Contracts of the reference's may, New and Arm: what each returns and what it does to memory. Conditions: those that each theorem names.
-/
import Derived.Test.YtpppeadmhfggkaaGreatDoorDskRefCheck
import Derived.Test.YtpppeadmhfggkaaGreatDoorDskNew
namespace Go.Proofs.YtpppeadmhfggkaaGreatDoor
open Go.RowKit DP

theorem isOp_eval (op : Int) (file b : ByteArray) (n : Int) : isOp ⟨op, file, b, n⟩ = (okName file && (if op = 0 ∨ op = 2 then decide (0 < b.size) && decide (n = 0) else if op = 1 ∨ op = 4 then decide (b.size = 0) && decide (n = 0) else if op = 3 then decide (b.size = 0) && decide (0 ≤ n) else false)) := by
  unfold isOp
  simp only
  cases okName file
  · rfl
  · simp only [Bool.true_and]
    split
    · by_cases h : n = 0
      · subst h; simp
      · simp [h]
    · split
      · by_cases h : n = 0
        · subst h; simp
        · simp [h]
      · split
        · rw [Bool.and_comm]
        · simp
set_option maxRecDepth 100000 in
set_option maxHeartbeats 4000000 in
theorem ref_may_any (op : Int) (file b : ByteArray) (n : Int) (r : Bool) (w : World) (hf : file.size ≤ 9223372036854775807) (hr : isOp ⟨op, file, b, n⟩ = r) :
    Calls Tryz.prog 39 #[.agg #[.int .i8 op, .string file, .string b, .int .i64 n]] w fun e w' => e = .returned (.bool r) ∧ Below w.heap.size w w' := by
  have HR := Lib.hid hr
  clear hr
  have hb1 := bel1 w #[.int .i8 op, .string file, .string b, .int .i64 n] 50
  cases hnm : okName file
  · have HNM := Lib.hid hnm
    obtain rfl : r = false := by rw [← HR.out, isOp_eval, hnm]; rfl
    clear hnm
    go_enter Tryz.func39, Tryz.ntmps39
    go_wp2_with (go_at_call 62; refine (ref_name_any file false _ HNM.out hf).mono ?_; rintro e w3 ⟨rfl, rfl⟩)
    go_ret
    exact ⟨rfl, hb1⟩
  · have HNM := Lib.hid hnm
    by_cases o0 : op = 0
    · subst o0
      by_cases hb : 0 < b.size
      · by_cases h0 : n = 0
        · subst h0
          obtain rfl : r = true := by rw [← HR.out, isOp_eval]; simp [hnm, hb]
          have t1 : decide ((0 : Int) < (b.size : Int)) = true := decide_eq_true (by omega)
          have z3 : ((0 : Int) == 0) = true := rfl
          clear hnm
          go_enter Tryz.func39, Tryz.ntmps39
          go_wp2_with (go_at_call 62; refine (ref_name_any file true _ HNM.out hf).mono ?_; rintro e w3 ⟨rfl, rfl⟩)
          go_ret
          exact ⟨rfl, hb1⟩
        · obtain rfl : r = false := by rw [← HR.out, isOp_eval]; simp [hnm, h0]
          have t1 : decide ((0 : Int) < (b.size : Int)) = true := decide_eq_true (by omega)
          have z3 : (n == 0) = false := by rw [beq_eq_false_iff_ne]; exact h0
          clear hnm
          go_enter Tryz.func39, Tryz.ntmps39
          go_wp2_with (go_at_call 62; refine (ref_name_any file true _ HNM.out hf).mono ?_; rintro e w3 ⟨rfl, rfl⟩)
          go_ret
          exact ⟨rfl, hb1⟩
      · obtain rfl : r = false := by rw [← HR.out, isOp_eval]; simp [hnm, hb]
        have t1 : decide ((0 : Int) < (b.size : Int)) = false := bool_dec _ (by omega)
        clear hnm
        go_enter Tryz.func39, Tryz.ntmps39
        go_wp2_with (go_at_call 62; refine (ref_name_any file true _ HNM.out hf).mono ?_; rintro e w3 ⟨rfl, rfl⟩)
        go_ret
        exact ⟨rfl, hb1⟩
    by_cases o2 : op = 2
    · subst o2
      by_cases hb : 0 < b.size
      · by_cases h0 : n = 0
        · subst h0
          obtain rfl : r = true := by rw [← HR.out, isOp_eval]; simp [hnm, hb]
          have t1 : decide ((0 : Int) < (b.size : Int)) = true := decide_eq_true (by omega)
          have z3 : ((0 : Int) == 0) = true := rfl
          clear hnm
          go_enter Tryz.func39, Tryz.ntmps39
          go_wp2_with (go_at_call 62; refine (ref_name_any file true _ HNM.out hf).mono ?_; rintro e w3 ⟨rfl, rfl⟩)
          go_ret
          exact ⟨rfl, hb1⟩
        · obtain rfl : r = false := by rw [← HR.out, isOp_eval]; simp [hnm, h0]
          have t1 : decide ((0 : Int) < (b.size : Int)) = true := decide_eq_true (by omega)
          have z3 : (n == 0) = false := by rw [beq_eq_false_iff_ne]; exact h0
          clear hnm
          go_enter Tryz.func39, Tryz.ntmps39
          go_wp2_with (go_at_call 62; refine (ref_name_any file true _ HNM.out hf).mono ?_; rintro e w3 ⟨rfl, rfl⟩)
          go_ret
          exact ⟨rfl, hb1⟩
      · obtain rfl : r = false := by rw [← HR.out, isOp_eval]; simp [hnm, hb]
        have t1 : decide ((0 : Int) < (b.size : Int)) = false := bool_dec _ (by omega)
        clear hnm
        go_enter Tryz.func39, Tryz.ntmps39
        go_wp2_with (go_at_call 62; refine (ref_name_any file true _ HNM.out hf).mono ?_; rintro e w3 ⟨rfl, rfl⟩)
        go_ret
        exact ⟨rfl, hb1⟩
    by_cases o1 : op = 1
    · subst o1
      by_cases hb : 0 < b.size
      · obtain rfl : r = false := by rw [← HR.out, isOp_eval]; simp [hnm, show ¬ b.size = 0 by omega]
        obtain ⟨z1, z2⟩ := full_ways hb
        clear hnm
        go_enter Tryz.func39, Tryz.ntmps39
        go_wp2_with (go_at_call 62; refine (ref_name_any file true _ HNM.out hf).mono ?_; rintro e w3 ⟨rfl, rfl⟩)
        go_ret
        exact ⟨rfl, hb1⟩
      · have hb0 : b.size = 0 := by omega
        obtain rfl := eq_none.2 hb0
        have z1 := bare_toList
        unfold none_ at z1
        by_cases h0 : n = 0
        · obtain rfl : r = true := by rw [← HR.out, isOp_eval]; simp [hnm, hb0, h0]
          unfold none_ at *
          subst h0
          have z3 : ((0 : Int) == 0) = true := rfl
          clear hnm
          go_enter Tryz.func39, Tryz.ntmps39
          go_wp2_with (go_at_call 62; refine (ref_name_any file true _ HNM.out hf).mono ?_; rintro e w3 ⟨rfl, rfl⟩)
          go_ret
          exact ⟨rfl, hb1⟩
        · obtain rfl : r = false := by rw [← HR.out, isOp_eval]; simp [hnm, hb0, h0]
          unfold none_ at *
          have z3 : (n == 0) = false := by rw [beq_eq_false_iff_ne]; exact h0
          clear hnm
          go_enter Tryz.func39, Tryz.ntmps39
          go_wp2_with (go_at_call 62; refine (ref_name_any file true _ HNM.out hf).mono ?_; rintro e w3 ⟨rfl, rfl⟩)
          go_ret
          exact ⟨rfl, hb1⟩
    by_cases o4 : op = 4
    · subst o4
      by_cases hb : 0 < b.size
      · obtain rfl : r = false := by rw [← HR.out, isOp_eval]; simp [hnm, show ¬ b.size = 0 by omega]
        obtain ⟨z1, z2⟩ := full_ways hb
        clear hnm
        go_enter Tryz.func39, Tryz.ntmps39
        go_wp2_with (go_at_call 62; refine (ref_name_any file true _ HNM.out hf).mono ?_; rintro e w3 ⟨rfl, rfl⟩)
        go_ret
        exact ⟨rfl, hb1⟩
      · have hb0 : b.size = 0 := by omega
        obtain rfl := eq_none.2 hb0
        have z1 := bare_toList
        unfold none_ at z1
        by_cases h0 : n = 0
        · obtain rfl : r = true := by rw [← HR.out, isOp_eval]; simp [hnm, hb0, h0]
          unfold none_ at *
          subst h0
          have z3 : ((0 : Int) == 0) = true := rfl
          clear hnm
          go_enter Tryz.func39, Tryz.ntmps39
          go_wp2_with (go_at_call 62; refine (ref_name_any file true _ HNM.out hf).mono ?_; rintro e w3 ⟨rfl, rfl⟩)
          go_ret
          exact ⟨rfl, hb1⟩
        · obtain rfl : r = false := by rw [← HR.out, isOp_eval]; simp [hnm, hb0, h0]
          unfold none_ at *
          have z3 : (n == 0) = false := by rw [beq_eq_false_iff_ne]; exact h0
          clear hnm
          go_enter Tryz.func39, Tryz.ntmps39
          go_wp2_with (go_at_call 62; refine (ref_name_any file true _ HNM.out hf).mono ?_; rintro e w3 ⟨rfl, rfl⟩)
          go_ret
          exact ⟨rfl, hb1⟩
    by_cases o3 : op = 3
    · subst o3
      by_cases hb : 0 < b.size
      · obtain rfl : r = false := by rw [← HR.out, isOp_eval]; simp [hnm, show ¬ b.size = 0 by omega]
        obtain ⟨z1, z2⟩ := full_ways hb
        clear hnm
        go_enter Tryz.func39, Tryz.ntmps39
        go_wp2_with (go_at_call 62; refine (ref_name_any file true _ HNM.out hf).mono ?_; rintro e w3 ⟨rfl, rfl⟩)
        go_ret
        exact ⟨rfl, hb1⟩
      · have hb0 : b.size = 0 := by omega
        obtain rfl := eq_none.2 hb0
        have z1 := bare_toList
        unfold none_ at z1
        by_cases h0 : 0 ≤ n
        · obtain rfl : r = true := by rw [← HR.out, isOp_eval]; simp [hnm, hb0, h0]
          unfold none_ at *
          have z3 : decide (0 ≤ n) = true := decide_eq_true h0
          clear hnm
          go_enter Tryz.func39, Tryz.ntmps39
          go_wp2_with (go_at_call 62; refine (ref_name_any file true _ HNM.out hf).mono ?_; rintro e w3 ⟨rfl, rfl⟩)
          go_ret
          exact ⟨rfl, hb1⟩
        · obtain rfl : r = false := by rw [← HR.out, isOp_eval]; simp [hnm, hb0, h0]
          unfold none_ at *
          have z3 : decide (0 ≤ n) = false := bool_dec _ h0
          clear hnm
          go_enter Tryz.func39, Tryz.ntmps39
          go_wp2_with (go_at_call 62; refine (ref_name_any file true _ HNM.out hf).mono ?_; rintro e w3 ⟨rfl, rfl⟩)
          go_ret
          exact ⟨rfl, hb1⟩
    have y0 : (op == 0) = false := by rw [beq_eq_false_iff_ne]; exact o0
    have y1 : (op == 1) = false := by rw [beq_eq_false_iff_ne]; exact o1
    have y2 : (op == 2) = false := by rw [beq_eq_false_iff_ne]; exact o2
    have y3 : (op == 3) = false := by rw [beq_eq_false_iff_ne]; exact o3
    have y4 : (op == 4) = false := by rw [beq_eq_false_iff_ne]; exact o4
    obtain rfl : r = false := by rw [← HR.out, isOp_eval]; simp [hnm, o0, o1, o2, o3, o4]
    clear hnm
    go_enter Tryz.func39, Tryz.ntmps39
    go_wp2_with (go_at_call 62; refine (ref_name_any file true _ HNM.out hf).mono ?_; rintro e w3 ⟨rfl, rfl⟩)
    go_ret
    exact ⟨rfl, hb1⟩

/-- A disk that is stored into the result's variable. -/
theorem disk_out {fs : List Fl} {cap left r : Int} {down : Bool} {g m c : Nat} {A : Option Addr} {w W : World} {o0 o1 o2 o3 : Value} (hl : fs.length = m) (hs : Seen W W.heap.size A (fcells fs)) (hc : m ≤ c) (v : Var W g 24 #[o0, o1, o2, o3])
    (ho : ∀ (i : Nat) (s : ByteArray), (#[o0, o1, o2, o3] : Array Value)[i]? ≠ some (Value.string s)) (hg : w.heap.size ≤ g) (hb : Below w.heap.size w W) :
    DiskRes fs cap left down r w (.returned (.tuple #[.agg #[.slice A m c, .int .i64 cap, .int .i64 left, .bool down], .int .i64 r])) ((((W.setCell ⟨g, 0, none⟩ (.slice A m c)).setCell ⟨g, 1, none⟩ (.int .i64 cap)).setCell ⟨g, 2, none⟩ (.int .i64 left)).setCell ⟨g, 3, none⟩ (.bool down)) :=
  have ha := seen_apart hs v ho
  ⟨A, m, c, rfl, hl, ((((hs.off ha).off ha).off ha).off ha).up (by simp), hc, hb.trans (set4_below hg)⟩
end Go.Proofs.YtpppeadmhfggkaaGreatDoor
