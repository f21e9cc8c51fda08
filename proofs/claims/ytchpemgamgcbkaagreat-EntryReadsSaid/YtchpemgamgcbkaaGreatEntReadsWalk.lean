/-
  The walk over EntryReads: it returns true and turns nothing that was there. Condition: what is said of the string that came in.
-/
import Derived.Test.YtchpemgamgcbkaaGreatEntWakes
import Derived.Test.YtchpemgamgcbkaaGreatEntOnlyWalk
import Derived.Test.YtchpemgamgcbkaaGreatEntReadR
namespace Go.Proofs.YtchpemgamgcbkaaGreat
open Go.RowKit

set_option maxRecDepth 100000 in
set_option maxHeartbeats 2000000 in
theorem reads_walk (b : ByteArray) (w : World) (hb : b.size ≤ 9223372036854775807) : Calls Tryz.prog 4 #[.string b] w fun e w' => e = .returned (.bool true) ∧ Below w.heap.size w w' := by
  by_cases h1 : 2000 < b.size
  · have t1 : decide ((2000 : Int) < (b.size : Int)) = true := by simp; omega
    go_enter Tryz.func4, Tryz.ntmps4
    go_wp2_with fail
    refine (wakes_any w).mono ?_
    rintro e W1 ⟨rfl, b1⟩
    go_wp2
    go_ret
    exact ⟨rfl, b1⟩
  have t1 : decide ((2000 : Int) < (b.size : Int)) = false := bool_dec _ (by omega)
  have hl : b.size ≤ 1000000 := by omega
  obtain ⟨x, er, hx⟩ := eReadIs_of b
  have HX := Lib.hid hx
  clear hx
  go_enter Tryz.func4, Tryz.ntmps4
  go_wp2_with fail
  refine (eread_any b x er w HX.out hl).mono ?_
  rintro e W1 ⟨A1, n1, c1, D1, m1, d1, rfl, i1, b1⟩
  go_wp2_with (refine wpList_store_var rfl _ _ rfl rfl rfl (Var.new W1 #[.int .i8 0, .int .i64 0, .int .i64 0, .int .i64 0, .bool false, .slice none 0 0, .bool false, .int .i64 0, .int .i64 0, .int .i64 0, .int .i64 0, .int .i64 0, .string ⟨#[]⟩, .string ⟨#[]⟩, .int .i64 0, .int .i64 0, .int .i64 0, .slice none 0 0] 32) rfl (by kernel_rfl) (by simp [Value.oneCell', evals]) ?_; intro W2 v2 o2; obtain ⟨ev2, b2⟩ := EV.fresh i1 v2 o2; have bw2 := b1.trans (b2.mono b1.size); clear v2 o2 b2)
  refine (ref_eread_any b x er _ HX.out hl).mono ?_
  rintro e W3 ⟨A2, n2, c2, D2, m2, d2, rfl, i3, b3⟩
  have bw3 := bw2.trans (b3.mono bw2.size)
  have ev3 := ev2.below b3
  obtain ⟨q1, hq1⟩ : ∃ q, q = W1.heap.size := ⟨_, rfl⟩
  rw [← hq1] at ev3 ⊢
  clear b3 ev2 bw2 i1 b1 hq1
  have y0 : (er == er) = true := beq_self_eq_true _
  go_upto_region 5 with (refine wpList_store_var rfl _ _ rfl rfl rfl (Var.new W3 #[.int .i8 0, .int .i64 0, .int .i64 0, .int .i64 0, .bool false, .slice none 0 0, .bool false, .int .i64 0, .int .i64 0, .int .i64 0, .int .i64 0, .int .i64 0, .string ⟨#[]⟩, .string ⟨#[]⟩, .int .i64 0, .int .i64 0, .int .i64 0, .slice none 0 0] 32) rfl (by kernel_rfl) (by simp [Value.oneCell', evals]) ?_; intro W4 v4 o4; obtain ⟨ey4, b4⟩ := EV.fresh i3 v4 o4; have bw4 := bw3.trans (b4.mono bw3.size); have ex4 := ev3.below b4; clear v4 o4)
  go_wp2_with (first | refine wpList_load_var rfl _ rfl Tryz.underlying32 rfl rfl ex4.v (by simp only [evals]; kernel_rfl) ?_ | refine wpList_load_var rfl _ rfl Tryz.underlying32 rfl rfl ey4.v (by simp only [evals]; kernel_rfl) ?_)
  refine (ref_esame_any x x A1 A2 D1 D2 n1 n2 c1 c2 m1 m2 d1 d2 _ true _ ex4.i ey4.i (Nat.le_refl _) ⟨fun _ => rfl, fun _ => rfl⟩).mono ?_
  rintro e Wn ⟨rfl, bn⟩
  have bw5 := bw4.trans (bn.mono bw4.size)
  clear bn bw4 bw3 ex4 ey4 ev3 i3 b4
  go_wp2_with fail
  refine (wakes_any _).mono ?_
  rintro e W9 ⟨rfl, b9⟩
  have bf := bw5.trans (b9.mono bw5.size)
  clear bw5 b9
  go_wp2
  go_ret
  exact ⟨rfl, bf⟩
end Go.Proofs.YtchpemgamgcbkaaGreat
