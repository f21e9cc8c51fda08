/-
  Contracts of fields' must, of errors.Is at what it panics with, and of Wrong: what each returns and what it does to memory. Conditions: those that each theorem names.
-/
import Derived.Test.YtkeekecaojpkjaaVarAll
import Derived.Defers
import Derived.Recover
import Derived.Stop.Asserts
import Derived.LaidEql
import Derived.RowKitTokens
namespace Go.Proofs.Ytkeekecaojpkjaa
open Go.RowKit Go.Extern.Stop Go.Stop Go.Extern

/-- What must panics with. -/
def wrongV : Value := .iface 66 (.agg #[.iface 24 (.int .i64 70)])

theorem must_yes (w : World) : Calls Try.prog 37 #[.bool true] w fun e w' => e = .returned (.tuple #[]) ∧ w = w' := by
  go_enter Try.func37, Try.ntmps37
  go_wp2
  go_end0
  exact ⟨rfl, rfl⟩

theorem must_no (w : World) : Calls Try.prog 37 #[.bool false] w fun e w' => e = .panicked [{ v := wrongV, recovered := false }] ∧ w = w' := by
  unfold wrongV
  go_enter Try.func37, Try.ntmps37
  go_wp2
  exact ⟨rfl, rfl, rfl⟩


theorem is_typeOf (v : Value) (w : World) : (Extern.ReflectliteType.typeOf #[.iface 24 v]).run Try.prog w = .ok (.iface 76 (.agg #[.pointer (some ⟨0, 24, none⟩)])) w := by kernel_rfl
/-- The model's entry for '(rtype).Comparable'. -/
def cmpEntry : Array Value → Sem Value := Extern.ReflectliteType.method fun t => do Extern.Rtype.noPackHeld "Comparable" t; pure (.bool (← typeInfo t).comparable)
theorem is_comparable (w : World) : (cmpEntry #[.agg #[.pointer (some ⟨0, 24, none⟩)]]).run Try.prog w = .ok (.bool true) w := by kernel_rfl
theorem is_methodComparable (v : Value) (w : World) : (Go.method 220 76 v "Comparable").run Try.prog w = .ok (67, v) w := by kernel_rfl
theorem is_methodUnwrap (v : Value) (w : World) : (Go.method 220 66 v "Unwrap").run Try.prog w = .ok (63, v) w := by kernel_rfl
/-- The two errors are equal. -/
theorem is_eq (w : World) : (binOp .eql 62 (.iface 24 (.int .i64 70)) (.iface 24 (.int .i64 70))).run Try.prog w = .ok (.bool true) w := by kernel_rfl
theorem is_noIsW (v : Value) (xT : TypeId) (w : World) : (Instr.typeAssert (.iface 66 v) xT 78 true).run Try.prog w = .ok (.tuple #[.nilIface, .bool false]) w := run_typeAssert_lacksB Try.underlying78 (by kernel_rfl) (by kernel_rfl) v xT w
theorem is_hasUnwrapW (v : Value) (xT : TypeId) (w : World) : (Instr.typeAssert (.iface 66 v) xT 81 true).run Try.prog w = .ok (.tuple #[.iface 66 v, .bool true]) w := run_typeAssert_hasB Try.underlying81 (by kernel_rfl) v xT w

theorem unwrap_any (w : World) : Calls Try.prog 63 #[.agg #[.iface 24 (.int .i64 70)]] w fun e w' => e = .returned (.iface 24 (.int .i64 70)) ∧ Below w.heap.size w w' := by
  go_enter Try.func63, Try.ntmps63
  go_wp2
  go_ret
  exact ⟨rfl, (Below.refl _ _).alloc (Nat.le_refl _) _⟩

set_option maxRecDepth 100000 in
theorem is_wrong (w : World) : Calls Try.prog 42 #[wrongV, .iface 24 (.int .i64 70)] w fun e w' => e = .returned (.bool true) ∧ Below w.heap.size w w' := by
  unfold wrongV
  have h8 := @run_callFunc_extern Try.prog 44 _ Extern.ReflectliteType.typeOf Try.func44 (by kernel_rfl) (by kernel_rfl) (by kernel_rfl) (by kernel_rfl)
  have h32 := @run_callFunc_extern Try.prog 67 _ cmpEntry Try.func67 (by kernel_rfl) (by kernel_rfl) (by kernel_rfl) (by kernel_rfl)
  have tT := is_typeOf
  have cT := is_comparable
  have mR := is_methodComparable
  have mU := is_methodUnwrap
  have nW := is_noIsW
  have uW := is_hasUnwrapW
  have heq := is_eq
  have hty := run_eql_iface_types (P := Try.prog) 66 24 (.agg #[.iface 24 (.int .i64 70)]) (.int .i64 70) Try.underlying62 (by decide) w
  go_enter Try.func42, Try.ntmps42
  go_wp2
  refine wp_loop_rounds 2 ?_
  rw [rounds_succ]
  go_wp2_with (go_at_call 63; refine (unwrap_any _).mono ?_; rintro e w1 ⟨rfl, hb⟩)
  rw [rounds_succ]
  go_wp2
  go_ret
  exact ⟨rfl, hb⟩

end Go.Proofs.Ytkeekecaojpkjaa
