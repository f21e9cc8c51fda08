/-
  Contracts of fields' must, of errors.Is at what it panics with, and of Wrong: what each returns and what it does to memory. Conditions: those that each theorem names.
-/
import Derived.Test.YtchpemgamgcbkaaVarAll
import Derived.Defers
import Derived.Recover
import Derived.Stop.Asserts
import Derived.LaidEql
import Derived.RowKitTokens
namespace Go.Proofs.Ytchpemgamgcbkaa
open Go.RowKit Go.Extern.Stop Go.Stop Go.Extern

/-- What must panics with. -/
def wrongV : Value := .iface 116 (.agg #[.iface 35 (.int .i64 70)])

theorem must_yes (w : World) : Calls Try.prog 60 #[.bool true] w fun e w' => e = .returned (.tuple #[]) ∧ w = w' := by
  go_enter Try.func60, Try.ntmps60
  go_wp2
  go_end0
  exact ⟨rfl, rfl⟩

theorem must_no (w : World) : Calls Try.prog 60 #[.bool false] w fun e w' => e = .panicked [{ v := wrongV, recovered := false }] ∧ w = w' := by
  unfold wrongV
  go_enter Try.func60, Try.ntmps60
  go_wp2
  exact ⟨rfl, rfl, rfl⟩


theorem is_typeOf (v : Value) (w : World) : (Extern.ReflectliteType.typeOf #[.iface 35 v]).run Try.prog w = .ok (.iface 124 (.agg #[.pointer (some ⟨0, 35, none⟩)])) w := by kernel_rfl
/-- The model's entry for '(rtype).Comparable'. -/
def cmpEntry : Array Value → Sem Value := Extern.ReflectliteType.method fun t => do Extern.Rtype.noPackHeld "Comparable" t; pure (.bool (← typeInfo t).comparable)
theorem is_comparable (w : World) : (cmpEntry #[.agg #[.pointer (some ⟨0, 35, none⟩)]]).run Try.prog w = .ok (.bool true) w := by kernel_rfl
theorem is_methodComparable (v : Value) (w : World) : (Go.method 268 124 v "Comparable").run Try.prog w = .ok (96, v) w := by kernel_rfl
theorem is_methodUnwrap (v : Value) (w : World) : (Go.method 268 116 v "Unwrap").run Try.prog w = .ok (92, v) w := by kernel_rfl
/-- The two errors are equal. -/
theorem is_eq (w : World) : (binOp .eql 97 (.iface 35 (.int .i64 70)) (.iface 35 (.int .i64 70))).run Try.prog w = .ok (.bool true) w := by kernel_rfl
theorem is_noIsW (v : Value) (xT : TypeId) (w : World) : (Instr.typeAssert (.iface 116 v) xT 126 true).run Try.prog w = .ok (.tuple #[.nilIface, .bool false]) w := run_typeAssert_lacksB Try.underlying126 (by kernel_rfl) (by kernel_rfl) v xT w
theorem is_hasUnwrapW (v : Value) (xT : TypeId) (w : World) : (Instr.typeAssert (.iface 116 v) xT 129 true).run Try.prog w = .ok (.tuple #[.iface 116 v, .bool true]) w := run_typeAssert_hasB Try.underlying129 (by kernel_rfl) v xT w

theorem unwrap_any (w : World) : Calls Try.prog 92 #[.agg #[.iface 35 (.int .i64 70)]] w fun e w' => e = .returned (.iface 35 (.int .i64 70)) ∧ Below w.heap.size w w' := by
  go_enter Try.func92, Try.ntmps92
  go_wp2
  go_ret
  exact ⟨rfl, (Below.refl _ _).alloc (Nat.le_refl _) _⟩

set_option maxRecDepth 100000 in
theorem is_wrong (w : World) : Calls Try.prog 58 #[wrongV, .iface 35 (.int .i64 70)] w fun e w' => e = .returned (.bool true) ∧ Below w.heap.size w w' := by
  unfold wrongV
  have h8 := @run_callFunc_extern Try.prog 72 _ Extern.ReflectliteType.typeOf Try.func72 (by kernel_rfl) (by kernel_rfl) (by kernel_rfl) (by kernel_rfl)
  have h32 := @run_callFunc_extern Try.prog 96 _ cmpEntry Try.func96 (by kernel_rfl) (by kernel_rfl) (by kernel_rfl) (by kernel_rfl)
  have tT := is_typeOf
  have cT := is_comparable
  have mR := is_methodComparable
  have mU := is_methodUnwrap
  have nW := is_noIsW
  have uW := is_hasUnwrapW
  have heq := is_eq
  have hty := run_eql_iface_types (P := Try.prog) 116 35 (.agg #[.iface 35 (.int .i64 70)]) (.int .i64 70) Try.underlying97 (by decide) w
  go_enter Try.func58, Try.ntmps58
  go_wp2
  refine wp_loop_rounds 2 ?_
  rw [rounds_succ]
  go_wp2_with (go_at_call 92; refine (unwrap_any _).mono ?_; rintro e w1 ⟨rfl, hb⟩)
  rw [rounds_succ]
  go_wp2
  go_ret
  exact ⟨rfl, hb⟩

end Go.Proofs.Ytchpemgamgcbkaa
