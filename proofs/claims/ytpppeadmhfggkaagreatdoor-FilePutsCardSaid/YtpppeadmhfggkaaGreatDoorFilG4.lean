/-
  errors.As at the errors of disk: what it returns and what it does to memory, for each pair of an error and a target that disk's Do hands to it. Conditions: the one package variable of errors holds what the program's text lays (Glob).
  errors.As at the errors of disk: the entries that look at memory, and the contracts. Conditions: the one package variable of errors holds what the program's text lays (Glob).
-/
import Derived.Test.YtpppeadmhfggkaaGreatDoorDskWith
import Derived.LaidEql
import Derived.Stop.Asserts
import Derived.RowKitTokens
namespace Go.Proofs.YtpppeadmhfggkaaGreatDoor
open Go.RowKit DP Go.Extern.Stop Go.Stop Go.Extern

/-- The handle of a type. -/
abbrev hdl (t : TypeId) : Value := .pointer (some ⟨5, t, none⟩)
/-- A reflected value: its type, where it lies, its flags. -/
abbrev rval (t : TypeId) (a : Addr) (fl : Int) : Value := .agg #[hdl t, .pointer (some a), .int .u64 fl]

/-! ### the entries at disk's types -/
section
variable (w : World)
theorem vOf_pf (t : Addr) : (ReflectliteValue.unpack (.iface 73 (.pointer (some t)))).run Tryz.prog w = .ok (rval 73 ⟨w.heap.size, 0, none⟩ 150) (w.alloc (.cells #[.pointer (some t)] 73)) := by kernel_rfl
theorem vOf_pe (t : Addr) : (ReflectliteValue.unpack (.iface 74 (.pointer (some t)))).run Tryz.prog w = .ok (rval 74 ⟨w.heap.size, 0, none⟩ 150) (w.alloc (.cells #[.pointer (some t)] 74)) := by kernel_rfl
theorem vOf_f (c0 c1 c2 c3 c4 : Value) : (ReflectliteValue.unpack (.iface 72 (.agg #[c0, c1, c2, c3, c4]))).run Tryz.prog w = .ok (rval 72 ⟨w.heap.size, 0, none⟩ 153) (w.alloc (.cells #[c0, c1, c2, c3, c4] 72)) := by kernel_rfl
theorem vOf_e (n : Int) : (ReflectliteValue.unpack (.iface 34 (.int .i64 n))).run Tryz.prog w = .ok (rval 34 ⟨w.heap.size, 0, none⟩ 130) (w.alloc (.cells #[.int .i64 n] 34)) := by kernel_rfl
def typeEntry : Array Value → Sem Value := ReflectliteValue.methodAny (ReflectliteValue.valueError "reflectlite.Value.Type" 0) fun t _ _ _ => ReflectliteType.toType t
theorem type_pf (a : Addr) : (typeEntry #[rval 73 a 150]).run Tryz.prog w = .ok (.iface 116 (.agg #[hdl 73])) w := by kernel_rfl
theorem type_pe (a : Addr) : (typeEntry #[rval 74 a 150]).run Tryz.prog w = .ok (.iface 116 (.agg #[hdl 74])) w := by kernel_rfl
def kindEntry : Array Value → Sem Value := ReflectliteType.abiMethod fun t => do pure (.int .u8 (← Rtype.kind t))
theorem kind_pf : (kindEntry #[hdl 73]).run Tryz.prog w = .ok (.int .u8 22) w := by kernel_rfl
theorem kind_pe : (kindEntry #[hdl 74]).run Tryz.prog w = .ok (.int .u8 22) w := by kernel_rfl
theorem kind_f : (kindEntry #[hdl 72]).run Tryz.prog w = .ok (.int .u8 25) w := by kernel_rfl
theorem kind_e : (kindEntry #[hdl 34]).run Tryz.prog w = .ok (.int .u8 2) w := by kernel_rfl
theorem m_kind (h : Value) : (Go.method 288 116 (.agg #[h]) "Kind").run Tryz.prog w = .ok (110, h) w := by kernel_rfl
theorem m_elem (h : Value) : (Go.method 288 116 (.agg #[h]) "Elem").run Tryz.prog w = .ok (121, .agg #[h]) w := by kernel_rfl
theorem m_impl (h : Value) : (Go.method 288 116 (.agg #[h]) "Implements").run Tryz.prog w = .ok (122, .agg #[h]) w := by kernel_rfl
theorem m_assign (h : Value) : (Go.method 288 116 (.agg #[h]) "AssignableTo").run Tryz.prog w = .ok (119, .agg #[h]) w := by kernel_rfl
theorem m_unwrap (v : Value) : (Go.method 288 72 v "Unwrap").run Tryz.prog w = .ok (113, v) w := by kernel_rfl
theorem elem_pf : (ReflectliteType.method ReflectliteType.elem #[.agg #[hdl 73]]).run Tryz.prog w = .ok (.iface 116 (.agg #[hdl 72])) w := by kernel_rfl
theorem elem_pe : (ReflectliteType.method ReflectliteType.elem #[.agg #[hdl 74]]).run Tryz.prog w = .ok (.iface 116 (.agg #[hdl 34])) w := by kernel_rfl
def implEntry : Array Value → Sem Value := ReflectliteType.relation "Implements" ReflectliteType.implements_
theorem impl_f : (implEntry #[.agg #[hdl 72], .iface 116 (.agg #[hdl 30])]).run Tryz.prog w = .ok (.bool true) w := by kernel_rfl
theorem impl_e : (implEntry #[.agg #[hdl 34], .iface 116 (.agg #[hdl 30])]).run Tryz.prog w = .ok (.bool true) w := by kernel_rfl
theorem tOf_f (v : Value) : (ReflectliteType.typeOf #[.iface 72 v]).run Tryz.prog w = .ok (.iface 116 (.agg #[hdl 72])) w := by kernel_rfl
theorem tOf_e (v : Value) : (ReflectliteType.typeOf #[.iface 34 v]).run Tryz.prog w = .ok (.iface 116 (.agg #[hdl 34])) w := by kernel_rfl
def assignEntry : Array Value → Sem Value := ReflectliteType.relation "AssignableTo" ReflectliteType.assignableTo
theorem assign_ff : (assignEntry #[.agg #[hdl 72], .iface 116 (.agg #[hdl 72])]).run Tryz.prog w = .ok (.bool true) w := by kernel_rfl
theorem assign_ee : (assignEntry #[.agg #[hdl 34], .iface 116 (.agg #[hdl 34])]).run Tryz.prog w = .ok (.bool true) w := by kernel_rfl
theorem assign_ef : (assignEntry #[.agg #[hdl 34], .iface 116 (.agg #[hdl 72])]).run Tryz.prog w = .ok (.bool false) w := by kernel_rfl
theorem assign_fe : (assignEntry #[.agg #[hdl 72], .iface 116 (.agg #[hdl 34])]).run Tryz.prog w = .ok (.bool false) w := by kernel_rfl
theorem noAs_f (v : Value) (xT : TypeId) : (Instr.typeAssert (.iface 72 v) xT 128 true).run Tryz.prog w = .ok (.tuple #[.nilIface, .bool false]) w := run_typeAssert_lacksB Tryz.underlying128 (by kernel_rfl) (by kernel_rfl) v xT w
theorem noAs_e (v : Value) (xT : TypeId) : (Instr.typeAssert (.iface 34 v) xT 128 true).run Tryz.prog w = .ok (.tuple #[.nilIface, .bool false]) w := run_typeAssert_lacksB Tryz.underlying128 (by kernel_rfl) (by kernel_rfl) v xT w
theorem noUn_e (v : Value) (xT : TypeId) : (Instr.typeAssert (.iface 34 v) xT 121 true).run Tryz.prog w = .ok (.tuple #[.nilIface, .bool false]) w := run_typeAssert_lacksB Tryz.underlying121 (by kernel_rfl) (by kernel_rfl) v xT w
theorem noUns_e (v : Value) (xT : TypeId) : (Instr.typeAssert (.iface 34 v) xT 122 true).run Tryz.prog w = .ok (.tuple #[.nilIface, .bool false]) w := run_typeAssert_lacksB Tryz.underlying122 (by kernel_rfl) (by kernel_rfl) v xT w
theorem un_f (v : Value) (xT : TypeId) : (Instr.typeAssert (.iface 72 v) xT 121 true).run Tryz.prog w = .ok (.tuple #[.iface 72 v, .bool true]) w := run_typeAssert_hasB Tryz.underlying121 (by kernel_rfl) v xT w
end
end Go.Proofs.YtpppeadmhfggkaaGreatDoor

namespace Go.Proofs.YtpppeadmhfggkaaGreatDoor
open Go.RowKit DP Go.Extern.Stop Go.Stop Go.Extern

/-! ### the entries that look at memory -/
def nilEntry : Array Value → Sem Value := ReflectliteValue.method (ReflectliteValue.valueError "reflectlite.Value.IsNil" 0) ReflectliteValue.isNil
def elemEntry : Array Value → Sem Value := ReflectliteValue.method (ReflectliteValue.valueError "reflectlite.Value.Elem" 0) ReflectliteValue.elem
section
variable (W : World)
theorem parts_pf (a : Addr) : (ReflectliteValue.parts (rval 73 a 150)).run Tryz.prog W = .ok (some (73, a, 150)) W := by kernel_rfl
theorem parts_pe (a : Addr) : (ReflectliteValue.parts (rval 74 a 150)).run Tryz.prog W = .ok (some (74, a, 150)) W := by kernel_rfl
theorem parts_f (a : Addr) : (ReflectliteValue.parts (rval 72 a 153)).run Tryz.prog W = .ok (some (72, a, 153)) W := by kernel_rfl
theorem parts_e (a : Addr) : (ReflectliteValue.parts (rval 34 a 130)).run Tryz.prog W = .ok (some (34, a, 130)) W := by kernel_rfl
theorem parts_fv (a : Addr) : (ReflectliteValue.parts (rval 72 a 409)).run Tryz.prog W = .ok (some (72, a, 409)) W := by kernel_rfl
theorem parts_ev (a : Addr) : (ReflectliteValue.parts (rval 34 a 386)).run Tryz.prog W = .ok (some (34, a, 386)) W := by kernel_rfl
theorem el_pf : (Rtype.elem? 73).run Tryz.prog W = .ok (some 72) W := by kernel_rfl
theorem el_pe : (Rtype.elem? 74).run Tryz.prog W = .ok (some 34) W := by kernel_rfl
theorem mk_f (p : Addr) : (ReflectliteValue.mk 72 p ReflectliteValue.flagAddr).run Tryz.prog W = .ok (rval 72 p 409) W := by kernel_rfl
theorem mk_e (p : Addr) : (ReflectliteValue.mk 34 p ReflectliteValue.flagAddr).run Tryz.prog W = .ok (rval 34 p 386) W := by kernel_rfl
theorem dir_ff : (Rtype.directlyAssignable 72 72).run Tryz.prog W = .ok true W := by kernel_rfl
theorem dir_ee : (Rtype.directlyAssignable 34 34).run Tryz.prog W = .ok true W := by kernel_rfl

theorem nil_pf (a p : Addr) (ha : W.cell? a = some (.pointer (some p))) : (nilEntry #[rval 73 a 150]).run Tryz.prog W = .ok (.bool false) W := by
  show (ReflectliteValue.parts (rval 73 a 150) >>= _).run _ _ = _
  rw [Sem.run_bind, parts_pf]
  simp [ReflectliteValue.isNil, loadVar, isAgg, underlying, Tryz.underlying73, ha, Result.andThen]
theorem nil_pe (a p : Addr) (ha : W.cell? a = some (.pointer (some p))) : (nilEntry #[rval 74 a 150]).run Tryz.prog W = .ok (.bool false) W := by
  show (ReflectliteValue.parts (rval 74 a 150) >>= _).run _ _ = _
  rw [Sem.run_bind, parts_pe]
  simp [ReflectliteValue.isNil, loadVar, isAgg, underlying, Tryz.underlying74, ha, Result.andThen]
theorem elemV_pf (a p : Addr) (ha : W.cell? a = some (.pointer (some p))) : (elemEntry #[rval 73 a 150]).run Tryz.prog W = .ok (rval 72 p 409) W := by
  show (ReflectliteValue.parts (rval 73 a 150) >>= _).run _ _ = _
  rw [Sem.run_bind, parts_pf]
  simp [ReflectliteValue.elem, loadVar, isAgg, underlying, Tryz.underlying73, ha, Result.andThen, el_pf, mk_f]
theorem elemV_pe (a p : Addr) (ha : W.cell? a = some (.pointer (some p))) : (elemEntry #[rval 74 a 150]).run Tryz.prog W = .ok (rval 34 p 386) W := by
  show (ReflectliteValue.parts (rval 74 a 150) >>= _).run _ _ = _
  rw [Sem.run_bind, parts_pe]
  simp [ReflectliteValue.elem, loadVar, isAgg, underlying, Tryz.underlying74, ha, Result.andThen, el_pe, mk_e]

theorem size_f : (sizeOf 72).run Tryz.prog W = .ok 5 W := by kernel_rfl
/-- (Value).Set of an error number. -/
theorem set_e (g h : Nat) (n : Int) (o : Value) (ht : Var W g 34 #[o]) (hs : Var W h 34 #[.int .i64 n]) :
    (ReflectliteValue.set #[rval 34 ⟨g, 0, none⟩ 386, rval 34 ⟨h, 0, none⟩ 130]).run Tryz.prog W = .ok (.tuple #[]) (W.setCell ⟨g, 0, none⟩ (.int .i64 n)) := by
  have hb := hs.cell 0 rfl
  have hc := ht.cell 0 rfl
  have hf := ht.free 0
  show (ReflectliteValue.parts (rval 34 ⟨g, 0, none⟩ 386) >>= fun _ => ReflectliteValue.parts (rval 34 ⟨h, 0, none⟩ 130) >>= _).run _ _ = _
  simp only [Sem.run_bind, parts_ev, parts_e, Result.andThen]
  simp [ReflectliteValue.flagAddr, loadVar, isAgg, underlying, Tryz.underlying34, hb, Result.andThen, dir_ee, storeVar, Value.cells, storeCells, Addr.add]
  rw [run_store Tryz.prog W _ _ _ (by rfl)]
  simp [hc, hf]
/-- (Value).Set of the error of the operation at which a disk goes down. -/
theorem set_f (g h : Nat) (c0 c1 c2 c3 c4 o0 o1 o2 o3 o4 : Value) (ht : Var W g 72 #[o0, o1, o2, o3, o4]) (hs : Var W h 72 #[c0, c1, c2, c3, c4]) (h1 : ∀ u ∈ [c0, c1, c2, c3, c4], u.oneCell' = true) :
    (ReflectliteValue.set #[rval 72 ⟨g, 0, none⟩ 409, rval 72 ⟨h, 0, none⟩ 153]).run Tryz.prog W = .ok (.tuple #[]) (W.setRow g #[c0, c1, c2, c3, c4]) := by
  have hl : (loadCells ⟨h, 0, none⟩ 5).run Tryz.prog W = .ok #[c0, c1, c2, c3, c4] W := by
    refine run_loadCells_list (P := Tryz.prog) W ⟨h, 0, none⟩ [c0, c1, c2, c3, c4] (fun j v hj => ?_)
    rw [plain_add, Nat.zero_add]
    exact hs.cell j (by simpa using hj)
  have hst : (storeCells ⟨g, 0, none⟩ [c0, c1, c2, c3, c4]).run Tryz.prog W = .ok () (W.setRow g #[c0, c1, c2, c3, c4]) := by
    have := run_storeCells_at Tryz.prog g 0 72 [c0, c1, c2, c3, c4] 0 #[o0, o1, o2, o3, o4] W ht (by simp) h1
    simpa using this
  show (ReflectliteValue.parts (rval 72 ⟨g, 0, none⟩ 409) >>= fun _ => ReflectliteValue.parts (rval 72 ⟨h, 0, none⟩ 153) >>= _).run _ _ = _
  simp only [Sem.run_bind, parts_fv, parts_f, Result.andThen]
  simp [ReflectliteValue.flagAddr, loadVar, isAgg, underlying, Tryz.underlying72, Result.andThen, dir_ff, storeVar, Value.cells, hl, hst]
end

theorem Kept.setRow {S : List Nat} {a w : World} (h : Kept S a w) {g : Nat} (hg : g ∈ S ∨ a.heap.size ≤ g) (cs : Array Value) : Kept S a (w.setRow g cs) :=
  h.then (S' := [g]) ⟨rfl, rfl, rfl, by simp [World.setRow], fun k _ hk => setRow_other _ _ _ _ (by simpa using hk)⟩ (by intro x hx; simp at hx; subst hx; exact hg)
theorem Var.setRow {w : World} {g T : Nat} {cs : Array Value} (h : Var w g T cs) (ds : Array Value) : Var (w.setRow g ds) g T ds := setRow_heap w g cs ds T (0, 0) h

end Go.Proofs.YtpppeadmhfggkaaGreatDoor
