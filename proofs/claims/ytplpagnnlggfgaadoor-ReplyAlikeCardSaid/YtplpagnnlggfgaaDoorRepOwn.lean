/-
  Contracts of reply's own and steps. Conditions: those that each theorem names.
-/
import Derived.Test.YtplpagnnlggfgaaDoorRepMem
namespace Go.Proofs.YtplpagnnlggfgaaDoor
open Go.RowKit

def ownV (kind e : Int) : Array Value := #[.bool (hasF kind e 0), .bool (hasF kind e 1), .bool (hasF kind e 2), .bool (hasF kind e 3)]
/-- What own hands back. -/
def OwnRes (kind e : Int) (w : World) (r : Ending) (w' : World) : Prop := r = .returned (.agg (ownV kind e)) ∧ Below w.heap.size w w'
theorem own_kind (kind : Int) : kind = 0 ∨ kind = 1 ∨ kind = 2 ∨ kind = 5 ∨ kind = 7 ∨ (kind ≠ 0 ∧ kind ≠ 1 ∧ kind ≠ 2 ∧ kind ≠ 5 ∧ kind ≠ 7) := by omega
theorem one_below (w : World) (x y : Array Value) (T T' : TypeId) : Var ((w.alloc (.cells x T)).alloc (.cells y T')) (w.heap.size + 1) T' y ∧ Below w.heap.size w ((w.alloc (.cells x T)).alloc (.cells y T')) :=
  ⟨(by have h := Var.new (w.alloc (.cells x T)) y T'; rw [World.size_alloc] at h; exact h), ((Below.refl _ _).alloc (Nat.le_refl _) _).alloc (by simp) _⟩
set_option maxRecDepth 100000 in
set_option maxHeartbeats 2000000 in
theorem own_fields (kind e pid ep off : Int) (A : Option Addr) (n c : Nat) (w : World) : Calls Tryd.prog 30 #[.agg #[.int .i8 kind, .int .i64 e, .int .i64 pid, .int .i64 ep, .int .i64 off, .slice A n c]] w (OwnRes kind e w) := by
  by_cases he : e = 0
  · subst he
    have y0 : ((0 : Int) != 0) = false := by decide
    rcases own_kind kind with rfl | rfl | rfl | rfl | rfl | ⟨h0, h1, h2, h5, h7⟩
    · have hv : ownV 0 0 = #[.bool true, .bool false, .bool false, .bool false] := rfl
      obtain ⟨vb, bb⟩ := one_below w #[.int .i8 0, .int .i64 0, .int .i64 pid, .int .i64 ep, .int .i64 off, .slice A n c] #[.bool true, .bool false, .bool false, .bool false] 26 73
      have HV := Lib.hid hv
      have VB := Lib.hid vb
      have BB := Lib.hid bb
      clear hv vb bb
      go_enter Tryd.func30, Tryd.ntmps30
      go_wp2
      refine bodyPost_ret (results_var rfl rfl VB.out Tryd.underlying73 rfl (by kernel_rfl)) rfl ?_
      exact ⟨by rw [HV.out], BB.out⟩
    · have hv : ownV 1 0 = #[.bool true, .bool true, .bool false, .bool false] := rfl
      obtain ⟨vb, bb⟩ := one_below w #[.int .i8 1, .int .i64 0, .int .i64 pid, .int .i64 ep, .int .i64 off, .slice A n c] #[.bool true, .bool true, .bool false, .bool false] 26 73
      have HV := Lib.hid hv
      have VB := Lib.hid vb
      have BB := Lib.hid bb
      clear hv vb bb
      go_enter Tryd.func30, Tryd.ntmps30
      go_wp2
      refine bodyPost_ret (results_var rfl rfl VB.out Tryd.underlying73 rfl (by kernel_rfl)) rfl ?_
      exact ⟨by rw [HV.out], BB.out⟩
    · have hv : ownV 2 0 = #[.bool false, .bool false, .bool true, .bool false] := rfl
      obtain ⟨vb, bb⟩ := one_below w #[.int .i8 2, .int .i64 0, .int .i64 pid, .int .i64 ep, .int .i64 off, .slice A n c] #[.bool false, .bool false, .bool true, .bool false] 26 73
      have HV := Lib.hid hv
      have VB := Lib.hid vb
      have BB := Lib.hid bb
      clear hv vb bb
      go_enter Tryd.func30, Tryd.ntmps30
      go_wp2
      refine bodyPost_ret (results_var rfl rfl VB.out Tryd.underlying73 rfl (by kernel_rfl)) rfl ?_
      exact ⟨by rw [HV.out], BB.out⟩
    · have hv : ownV 5 0 = #[.bool false, .bool false, .bool true, .bool true] := rfl
      obtain ⟨vb, bb⟩ := one_below w #[.int .i8 5, .int .i64 0, .int .i64 pid, .int .i64 ep, .int .i64 off, .slice A n c] #[.bool false, .bool false, .bool true, .bool true] 26 73
      have HV := Lib.hid hv
      have VB := Lib.hid vb
      have BB := Lib.hid bb
      clear hv vb bb
      go_enter Tryd.func30, Tryd.ntmps30
      go_wp2
      refine bodyPost_ret (results_var rfl rfl VB.out Tryd.underlying73 rfl (by kernel_rfl)) rfl ?_
      exact ⟨by rw [HV.out], BB.out⟩
    · have hv : ownV 7 0 = #[.bool false, .bool false, .bool true, .bool false] := rfl
      obtain ⟨vb, bb⟩ := one_below w #[.int .i8 7, .int .i64 0, .int .i64 pid, .int .i64 ep, .int .i64 off, .slice A n c] #[.bool false, .bool false, .bool true, .bool false] 26 73
      have HV := Lib.hid hv
      have VB := Lib.hid vb
      have BB := Lib.hid bb
      clear hv vb bb
      go_enter Tryd.func30, Tryd.ntmps30
      go_wp2
      refine bodyPost_ret (results_var rfl rfl VB.out Tryd.underlying73 rfl (by kernel_rfl)) rfl ?_
      exact ⟨by rw [HV.out], BB.out⟩
    · have y0 : (kind == 0) = false := by rw [beq_eq_false_iff_ne]; exact h0
      have y1 : (kind == 1) = false := by rw [beq_eq_false_iff_ne]; exact h1
      have y2 : (kind == 2) = false := by rw [beq_eq_false_iff_ne]; exact h2
      have y5 : (kind == 5) = false := by rw [beq_eq_false_iff_ne]; exact h5
      have y7 : (kind == 7) = false := by rw [beq_eq_false_iff_ne]; exact h7
      have hv : ownV kind 0 = #[.bool false, .bool false, .bool false, .bool false] := by simp only [ownV, hasF, y0, y1, y2, y5, y7, Bool.or_self, Bool.and_false]
      obtain ⟨vb, bb⟩ := one_below w #[.int .i8 kind, .int .i64 0, .int .i64 pid, .int .i64 ep, .int .i64 off, .slice A n c] #[.bool false, .bool false, .bool false, .bool false] 26 73
      have HV := Lib.hid hv
      have VB := Lib.hid vb
      have BB := Lib.hid bb
      clear hv vb bb h0 h1 h2 h5 h7
      go_enter Tryd.func30, Tryd.ntmps30
      go_wp2
      refine bodyPost_ret (results_var rfl rfl VB.out Tryd.underlying73 rfl (by kernel_rfl)) rfl ?_
      exact ⟨by rw [HV.out], BB.out⟩
  · have y0 : (e != 0) = true := by rw [bne_iff_ne]; exact he
    have y1 : (e == 0) = false := by rw [beq_eq_false_iff_ne]; exact he
    have hv : ownV kind e = #[.bool false, .bool false, .bool false, .bool false] := by simp only [ownV, hasF, y1, Bool.false_and]
    obtain ⟨vb, bb⟩ := one_below w #[.int .i8 kind, .int .i64 e, .int .i64 pid, .int .i64 ep, .int .i64 off, .slice A n c] #[.bool false, .bool false, .bool false, .bool false] 26 73
    have HV := Lib.hid hv
    have VB := Lib.hid vb
    have BB := Lib.hid bb
    clear hv vb bb he y1
    go_enter Tryd.func30, Tryd.ntmps30
    go_wp2
    refine bodyPost_ret (results_var rfl rfl VB.out Tryd.underlying73 rfl (by kernel_rfl)) rfl ?_
    exact ⟨by rw [HV.out], BB.out⟩
def stepsV : Array Value := #[.func (.func 36) #[] #[], .func (.func 37) #[] #[], .func (.func 38) #[] #[], .func (.func 39) #[] #[]]
theorem stepsV_one : stepsV.all (·.oneCell') = true := by simp [stepsV, Value.oneCell']
set_option maxRecDepth 100000 in
theorem steps_any (w : World) : Calls Tryd.prog 31 #[] w fun e w' => e = .returned (.agg stepsV) ∧ Below w.heap.size w w' := by
  have v0 := Var.new w #[.nilFunc, .nilFunc, .nilFunc, .nilFunc] 76
  have b0 := below_new (w := w) (.cells #[.nilFunc, .nilFunc, .nilFunc, .nilFunc] 76)
  go_enter Tryd.func31, Tryd.ntmps31
  go_wp2_with (refine wpList_store_var rfl _ _ rfl rfl rfl v0 rfl (by kernel_rfl) stepsV_one ?_; intro W9 v9 o9)
  refine bodyPost_ret (results_var rfl rfl v9 Tryd.underlying76 rfl (by kernel_rfl)) rfl ?_
  exact ⟨rfl, Only.below b0 o9 (Nat.le_refl _)⟩
end Go.Proofs.YtplpagnnlggfgaaDoor
