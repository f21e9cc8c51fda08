/-
  errors.As at the errors of disk: what it returns and what it does to memory, for each pair of an error and a target that disk's Do hands to it. Conditions: the one package variable of errors holds what the program's text lays (Glob).
-/
import Derived.Test.YtbglpmjfajmkdaaDoorDskWith
import Derived.LaidEql
import Derived.Stop.Asserts
import Derived.RowKitTokens
namespace Go.Proofs.YtbglpmjfajmkdaaDoor
open Go.RowKit DP Go.Extern.Stop Go.Stop Go.Extern

/-- The handle of a type. -/
abbrev hdl (t : TypeId) : Value := .pointer (some ⟨1, t, none⟩)
/-- A reflected value: its type, where it lies, its flags. -/
abbrev rval (t : TypeId) (a : Addr) (fl : Int) : Value := .agg #[hdl t, .pointer (some a), .int .u64 fl]

/-! ### the entries at disk's types -/
section
variable (w : World)
theorem vOf_pf (t : Addr) : (ReflectliteValue.unpack (.iface 66 (.pointer (some t)))).run Tryd.prog w = .ok (rval 66 ⟨w.heap.size, 0, none⟩ 150) (w.alloc (.cells #[.pointer (some t)] 66)) := by kernel_rfl
theorem vOf_pe (t : Addr) : (ReflectliteValue.unpack (.iface 67 (.pointer (some t)))).run Tryd.prog w = .ok (rval 67 ⟨w.heap.size, 0, none⟩ 150) (w.alloc (.cells #[.pointer (some t)] 67)) := by kernel_rfl
theorem vOf_f (c0 c1 c2 c3 c4 : Value) : (ReflectliteValue.unpack (.iface 64 (.agg #[c0, c1, c2, c3, c4]))).run Tryd.prog w = .ok (rval 64 ⟨w.heap.size, 0, none⟩ 153) (w.alloc (.cells #[c0, c1, c2, c3, c4] 64)) := by kernel_rfl
theorem vOf_e (n : Int) : (ReflectliteValue.unpack (.iface 33 (.int .i64 n))).run Tryd.prog w = .ok (rval 33 ⟨w.heap.size, 0, none⟩ 130) (w.alloc (.cells #[.int .i64 n] 33)) := by kernel_rfl
def typeEntry : Array Value → Sem Value := ReflectliteValue.methodAny (ReflectliteValue.valueError "reflectlite.Value.Type" 0) fun t _ _ _ => ReflectliteType.toType t
theorem type_pf (a : Addr) : (typeEntry #[rval 66 a 150]).run Tryd.prog w = .ok (.iface 91 (.agg #[hdl 66])) w := by kernel_rfl
theorem type_pe (a : Addr) : (typeEntry #[rval 67 a 150]).run Tryd.prog w = .ok (.iface 91 (.agg #[hdl 67])) w := by kernel_rfl
def kindEntry : Array Value → Sem Value := ReflectliteType.abiMethod fun t => do pure (.int .u8 (← Rtype.kind t))
theorem kind_pf : (kindEntry #[hdl 66]).run Tryd.prog w = .ok (.int .u8 22) w := by kernel_rfl
theorem kind_pe : (kindEntry #[hdl 67]).run Tryd.prog w = .ok (.int .u8 22) w := by kernel_rfl
theorem kind_f : (kindEntry #[hdl 64]).run Tryd.prog w = .ok (.int .u8 25) w := by kernel_rfl
theorem kind_e : (kindEntry #[hdl 33]).run Tryd.prog w = .ok (.int .u8 2) w := by kernel_rfl
theorem m_kind (h : Value) : (Go.method 234 91 (.agg #[h]) "Kind").run Tryd.prog w = .ok (71, h) w := by kernel_rfl
theorem m_elem (h : Value) : (Go.method 234 91 (.agg #[h]) "Elem").run Tryd.prog w = .ok (82, .agg #[h]) w := by kernel_rfl
theorem m_impl (h : Value) : (Go.method 234 91 (.agg #[h]) "Implements").run Tryd.prog w = .ok (83, .agg #[h]) w := by kernel_rfl
theorem m_assign (h : Value) : (Go.method 234 91 (.agg #[h]) "AssignableTo").run Tryd.prog w = .ok (80, .agg #[h]) w := by kernel_rfl
theorem m_unwrap (v : Value) : (Go.method 234 64 v "Unwrap").run Tryd.prog w = .ok (75, v) w := by kernel_rfl
theorem elem_pf : (ReflectliteType.method ReflectliteType.elem #[.agg #[hdl 66]]).run Tryd.prog w = .ok (.iface 91 (.agg #[hdl 64])) w := by kernel_rfl
theorem elem_pe : (ReflectliteType.method ReflectliteType.elem #[.agg #[hdl 67]]).run Tryd.prog w = .ok (.iface 91 (.agg #[hdl 33])) w := by kernel_rfl
def implEntry : Array Value → Sem Value := ReflectliteType.relation "Implements" ReflectliteType.implements_
theorem impl_f : (implEntry #[.agg #[hdl 64], .iface 91 (.agg #[hdl 60])]).run Tryd.prog w = .ok (.bool true) w := by kernel_rfl
theorem impl_e : (implEntry #[.agg #[hdl 33], .iface 91 (.agg #[hdl 60])]).run Tryd.prog w = .ok (.bool true) w := by kernel_rfl
theorem tOf_f (v : Value) : (ReflectliteType.typeOf #[.iface 64 v]).run Tryd.prog w = .ok (.iface 91 (.agg #[hdl 64])) w := by kernel_rfl
theorem tOf_e (v : Value) : (ReflectliteType.typeOf #[.iface 33 v]).run Tryd.prog w = .ok (.iface 91 (.agg #[hdl 33])) w := by kernel_rfl
def assignEntry : Array Value → Sem Value := ReflectliteType.relation "AssignableTo" ReflectliteType.assignableTo
theorem assign_ff : (assignEntry #[.agg #[hdl 64], .iface 91 (.agg #[hdl 64])]).run Tryd.prog w = .ok (.bool true) w := by kernel_rfl
theorem assign_ee : (assignEntry #[.agg #[hdl 33], .iface 91 (.agg #[hdl 33])]).run Tryd.prog w = .ok (.bool true) w := by kernel_rfl
theorem assign_ef : (assignEntry #[.agg #[hdl 33], .iface 91 (.agg #[hdl 64])]).run Tryd.prog w = .ok (.bool false) w := by kernel_rfl
theorem assign_fe : (assignEntry #[.agg #[hdl 64], .iface 91 (.agg #[hdl 33])]).run Tryd.prog w = .ok (.bool false) w := by kernel_rfl
theorem noAs_f (v : Value) (xT : TypeId) : (Instr.typeAssert (.iface 64 v) xT 96 true).run Tryd.prog w = .ok (.tuple #[.nilIface, .bool false]) w := run_typeAssert_lacksB Tryd.underlying96 (by kernel_rfl) (by kernel_rfl) v xT w
theorem noAs_e (v : Value) (xT : TypeId) : (Instr.typeAssert (.iface 33 v) xT 96 true).run Tryd.prog w = .ok (.tuple #[.nilIface, .bool false]) w := run_typeAssert_lacksB Tryd.underlying96 (by kernel_rfl) (by kernel_rfl) v xT w
theorem noUn_e (v : Value) (xT : TypeId) : (Instr.typeAssert (.iface 33 v) xT 99 true).run Tryd.prog w = .ok (.tuple #[.nilIface, .bool false]) w := run_typeAssert_lacksB Tryd.underlying99 (by kernel_rfl) (by kernel_rfl) v xT w
theorem noUns_e (v : Value) (xT : TypeId) : (Instr.typeAssert (.iface 33 v) xT 101 true).run Tryd.prog w = .ok (.tuple #[.nilIface, .bool false]) w := run_typeAssert_lacksB Tryd.underlying101 (by kernel_rfl) (by kernel_rfl) v xT w
theorem un_f (v : Value) (xT : TypeId) : (Instr.typeAssert (.iface 64 v) xT 99 true).run Tryd.prog w = .ok (.tuple #[.iface 64 v, .bool true]) w := run_typeAssert_hasB Tryd.underlying99 (by kernel_rfl) v xT w
end
end Go.Proofs.YtbglpmjfajmkdaaDoor
