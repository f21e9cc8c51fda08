/-
  The contracts of slices.Equal over files and of disk.Same. No conditions.
-/
import Derived.Test.YtpppeadmhfggkaaDoorDskAttB
import Derived.Laws.StructEq
namespace Go.Proofs.YtpppeadmhfggkaaDoor
open Go.RowKit DP

@[go_sem] theorem file_eq (a b c d : ByteArray) (x y : Int) (w : World) : (Op.equalIn 10000 54 (.agg #[.string a, .string b, .int .i64 x]) (.agg #[.string c, .string d, .int .i64 y])).run Tryd.prog w = .ok (a.toList == c.toList && (b.toList == d.toList && x == y)) w := by
  have u1 := Tryd.underlying9
  have a1 := Tryd.isAgg9
  have z1 := Tryd.sizeOf9
  have u3 := Tryd.underlying3
  have a3 := Tryd.isAgg3
  have z3 := Tryd.sizeOf3
  have hS : Tryd.prog.underlying 54 = some (.struct (Tryd.prog.fieldsOf 54)) := by kernel_rfl
  have hp : Tryd.prog.stoodInHeld 54 = false := by kernel_rfl
  rw [show (10000 : Nat) = 9999 + 1 from rfl, run_equalIn_agg w 9999 54 _ _ hS hp]
  simp only [Program.fieldsOf, Tryd.underlying54]
  go_simp
  cases h1 : a.toList == c.toList <;> cases h2 : b.toList == d.toList <;> cases h3 : x == y <;> simp_all

set_option maxRecDepth 100000 in
set_option maxHeartbeats 1000000 in
theorem equal_self (A1 A2 : Option Addr) (n c1 c2 B : Nat) (fs : List Fl) (w : World) (hn : fs.length = n) (hs1 : Seen w B A1 (fcells fs)) (hs2 : Seen w B A2 (fcells fs)) (hB : B ≤ w.heap.size) (hmax : n ≤ 100) :
    Calls Tryd.prog 45 #[.slice A1 n c1, .slice A2 n c2] w fun e w' => e = .returned (.bool true) ∧ Below w.heap.size w w' := by
  have HN := Lib.hid hn
  clear hn
  go_enter Tryd.func45, Tryd.ntmps45
  have y0 : ((n : Int) == (n : Int)) = true := by simp
  go_wp2
  go_loopw [13] (fun i wr => ∃ (k : Nat), k ≤ n ∧ i = .int .i64 k ∧ Below w.heap.size w wr) (fun i _ => n - (intOf i).toNat)
  case atStart => exact ⟨0, by omega, rfl, Below.refl _ _⟩
  case round =>
    obtain ⟨k, hk, rfl, hbw⟩ := hrel
    by_cases hlt : k < n
    · obtain ⟨f, hf⟩ := file_here HN.out hlt
      obtain ⟨b1, o1, rfl, hb1, p0, p1, p2⟩ := file_at (hs1.below (hbw.mono hB)) hf
      obtain ⟨b2, o2, rfl, hb2, q0, q1, q2⟩ := file_at (hs2.below (hbw.mono hB)) hf
      have hw1 : b1 < wr.heap.size := by have := hbw.size; omega
      have hw2 : b2 < wr.heap.size := by have := hbw.size; omega
      obtain ⟨fn, fb, s⟩ := f
      simp only at p0 p1 p2 q0 q1 q2
      clear hf
      have hgd : Tryd.prog.eqGuardType Tryd.prog.depth 54 = false := by kernel_rfl
      have hbz := hbw.size
      go_wp2
      go_region_with fail
      all_goals
        go_wp2
        go_round
        case rel => first | exact ⟨k + 1, by omega, by go_num, hbw⟩ | exact ⟨k + 1, by omega, by go_num, hbw.drew⟩ | exact ⟨k + 1, by omega, by go_num, hbw.drew.drew⟩
        case measure => simp [intOf]; omega
    · go_wp2
      go_ret
      exact ⟨rfl, hbw⟩

set_option maxRecDepth 100000 in
set_option maxHeartbeats 1000000 in
theorem same_self (A1 A2 : Option Addr) (n c1 c2 B : Nat) (fs : List Fl) (cap left : Int) (down : Bool) (w : World) (hn : fs.length = n) (hs1 : Seen w B A1 (fcells fs)) (hs2 : Seen w B A2 (fcells fs)) (hB : B ≤ w.heap.size) (hmax : n ≤ 100) :
    Calls Tryd.prog 23 #[.agg #[.slice A1 n c1, .int .i64 cap, .int .i64 left, .bool down], .agg #[.slice A2 n c2, .int .i64 cap, .int .i64 left, .bool down]] w fun e w' => e = .returned (.bool true) ∧ Below w.heap.size w w' := by
  have HN := Lib.hid hn
  clear hn
  have y1 : (cap == cap) = true := by simp
  have y2 : (left == left) = true := by simp
  have y3 : (down == down) = true := by simp
  go_enter Tryd.func23, Tryd.ntmps23
  go_wp2_with fail
  obtain ⟨W2, hW2⟩ : ∃ W2, W2 = (w.alloc (.cells #[.slice A1 n c1, .int .i64 cap, .int .i64 left, .bool down] 24)).alloc (.cells #[.slice A2 n c2, .int .i64 cap, .int .i64 left, .bool down] 24) := ⟨_, rfl⟩
  have v1 : Var W2 w.heap.size 24 #[.slice A1 n c1, .int .i64 cap, .int .i64 left, .bool down] := by rw [hW2]; exact (new1 w _ _).alloc _
  have v2 : Var W2 (w.heap.size + 1) 24 #[.slice A2 n c2, .int .i64 cap, .int .i64 left, .bool down] := by
    have h := new1 (w.alloc (.cells #[.slice A1 n c1, .int .i64 cap, .int .i64 left, .bool down] 24)) #[.slice A2 n c2, .int .i64 cap, .int .i64 left, .bool down] 24
    rw [World.size_alloc] at h
    rw [hW2]; exact h
  have hb2 : Below w.heap.size w W2 := by rw [hW2]; exact ((Below.refl _ w).alloc (Nat.le_refl _) _).alloc (by simp) _
  rw [← hW2]
  clear hW2
  refine (equal_self A1 A2 n c1 c2 B fs _ HN.out (hs1.below (hb2.mono hB)) (hs2.below (hb2.mono hB)) (Nat.le_trans hB hb2.size) hmax).mono ?_
  rintro e W3 ⟨rfl, hx⟩
  have v1' := v1.below hx v1.lt
  have v2' := v2.below hx v2.lt
  have hb3 := hb2.trans (hx.mono hb2.size)
  obtain ⟨d0, d1, d2, d3, f1⟩ := v1'.cells4
  obtain ⟨e0, e1, e2, e3, f2⟩ := v2'.cells4
  have l1 := v1'.lt
  have l2 := v2'.lt
  clear v1 v2 hb2 hx
  go_wp2
  go_ret
  exact ⟨rfl, hb3⟩
end Go.Proofs.YtpppeadmhfggkaaDoor
