/-
  The walk over RequestReads: it returns true and turns nothing that was there. Conditions: what is said of the argument; the one package variable of errors holds what the program's text lays (Glob).
-/
import Derived.Test.YtfcifblbapadpaaGreatDoorReqWakes
import Derived.Test.YtfcifblbapadpaaGreatDoorReqReadR
import Derived.Test.YtfcifblbapadpaaGreatDoorReqSameR
namespace Go.Proofs.YtfcifblbapadpaaGreatDoor
open Go.RowKit

set_option maxRecDepth 100000 in
set_option maxHeartbeats 2000000 in
theorem reads_walk (A : Option Addr) (l cap : Nat) (bs : List UInt8) (w : World) (hG : Glob w) (hs : Seen w w.heap.size A (cells bs)) (hl : l = bs.length) :
    Calls Tryz.prog 3 #[.slice A l cap] w fun e w' => e = .returned (.bool true) ∧ Below w.heap.size w w' := by
  by_cases h1 : 4000 < l
  · have t1 : decide ((4000 : Int) < (l : Int)) = true := by simp; omega
    clear hl hs hG
    go_enter Tryz.func3, Tryz.ntmps3
    go_wp2_with fail
    refine (qwakes_any w).mono ?_
    rintro e W1 ⟨rfl, b1⟩
    go_wp2
    go_ret
    exact ⟨rfl, b1⟩
  have t1 : decide ((4000 : Int) < (l : Int)) = false := by simp; omega
  obtain ⟨x, er, hx⟩ := qIs_of ⟨bs.toArray⟩
  have HX := Lib.hid hx
  have HS := Lib.hid hs
  have HL := Lib.hid hl
  clear hx hs hl
  go_enter Tryz.func3, Tryz.ntmps3
  go_wp2_with fail
  refine (rget_any A l cap w.heap.size bs x er w hG HX.out HS.out (Nat.le_refl _) HL.out (by omega)).mono ?_
  rintro e W1 ⟨b1, A1, n1, c1, rfl, o1⟩
  have i1 := o1.qin
  clear o1
  obtain ⟨q1, hq1⟩ : ∃ q, q = W1.heap.size := ⟨_, rfl⟩
  go_upto_region 4 with (refine wpList_store_var rfl _ _ rfl rfl rfl (Var.new W1 #[.int .i8 0, .int .i64 0, .int .i64 0, .int .i64 0, .int .i64 0, .int .i64 0, .int .i64 0, .int .i64 0, .int .i64 0, .bool false, .int .i64 0, .int .i64 0, .int .i64 0, .bool false, .slice none 0 0] 29) rfl (by simp only [qvals]; kernel_rfl) (qvals_one x A1 n1 c1) ?_; intro W2 v2 o2; have b12 : Below W1.heap.size W1 W2 := Only.below (below_new _) o2 (Nat.le_refl _))
  have b2 := b1.trans (b12.mono b1.size)
  have i2 := (i1.below b12).up b12.size
  rw [← hq1] at v2 ⊢
  clear o2 b12 i1 b1 hq1
  have hs2 := HS.out.below b2
  go_wp2_with fail
  refine (ref_qread_any A l cap w.heap.size bs x er W2 HX.out hs2 b2.size HL.out (by omega)).mono ?_
  rintro e W3 ⟨b23, A2, n2, c2, rfl, o3⟩
  have j3 := o3.qin
  have b3 := b2.trans (b23.mono b2.size)
  have v3 := v2.below b23 v2.lt
  have i3 := (i2.below b23).up b23.size
  clear hs2 b23 o3 v2 i2 b2
  obtain ⟨q3, hq3⟩ : ∃ q, q = W3.heap.size := ⟨_, rfl⟩
  go_upto_region 5 with (refine wpList_store_var rfl _ _ rfl rfl rfl (Var.new W3 #[.int .i8 0, .int .i64 0, .int .i64 0, .int .i64 0, .int .i64 0, .int .i64 0, .int .i64 0, .int .i64 0, .int .i64 0, .bool false, .int .i64 0, .int .i64 0, .int .i64 0, .bool false, .slice none 0 0] 29) rfl (by simp only [qvals]; kernel_rfl) (qvals_one x A2 n2 c2) ?_; intro W4 v4 o4; have b34 : Below W3.heap.size W3 W4 := Only.below (below_new _) o4 (Nat.le_refl _))
  have b4 := b3.trans (b34.mono b3.size)
  have u4 := v3.below b34 v3.lt
  have i4 := (i3.below b34).up b34.size
  have j4 := (j3.below b34).up b34.size
  rw [← hq3] at v4 ⊢
  clear o4 b34 v3 i3 j3 b3 hq3
  have y0 : (er == er) = true := beq_self_eq_true _
  go_wp2_with (first | refine wpList_load_var rfl _ rfl Tryz.underlying29 rfl rfl u4 (by simp only [qvals]; kernel_rfl) ?_ | refine wpList_load_var rfl _ rfl Tryz.underlying29 rfl rfl v4 (by simp only [qvals]; kernel_rfl) ?_)
  refine (ref_qsame_any x x A1 A2 n1 n2 c1 c2 W4.heap.size true W4 i4 j4 (Nat.le_refl _) ⟨fun _ => rfl, fun _ => rfl⟩).mono ?_
  rintro e W5 ⟨rfl, b45⟩
  have b5 := b4.trans (b45.mono b4.size)
  clear b45 b4 u4 v4 i4 j4
  go_wp2_with fail
  refine (qwakes_any W5).mono ?_
  rintro e W6 ⟨rfl, b56⟩
  have b6 := b5.trans (b56.mono b5.size)
  clear b5 b56 y0
  go_wp2
  go_ret
  exact ⟨rfl, b6⟩
end Go.Proofs.YtfcifblbapadpaaGreatDoor
