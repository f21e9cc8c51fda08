/-
  errors.Is and errors.As at the error of a field of a reply, and reply's code. Conditions: the one package variable of errors holds what the program's text lays (Glob); that the error lies in memory.
-/
import Derived.Test.YtplpagnnlggfgaaDoorRepUse
import Derived.LaidEql
import Derived.Stop.Asserts
import Derived.RowKitTokens
namespace Go.Proofs.YtplpagnnlggfgaaDoor
open Go.RowKit Go.Extern.Stop Go.Stop Go.Extern

/-- What the one package variable of errors holds. -/
def Glob (w : World) : Prop := w.cell? ⟨0, 0, none⟩ = some (.iface 94 (.agg #[.pointer (some ⟨4, 40, none⟩)]))
theorem Glob.pos {w : World} (h : Glob w) : 0 < w.heap.size := World.block_lt_of_cell? w _ h
theorem Glob.below {w w' : World} {B : Nat} (h : Glob w) (hB : 0 < B) (hb : Below B w w') : Glob w' := (hb.cell (p := ⟨0, 0, none⟩) hB).trans h
theorem Glob.next {w w' : World} (h : Glob w) (hb : Below w.heap.size w w') : Glob w' := h.below h.pos hb
/-- The handle of a type. -/
abbrev hdl (t : TypeId) : Value := .pointer (some ⟨4, t, none⟩)
/-- A reflected value: its type, where it lies, its flags. -/
abbrev rval (t : TypeId) (a : Addr) (fl : Int) : Value := .agg #[hdl t, .pointer (some a), .int .u64 fl]
section
variable (w : World)
theorem vOf_pe (t : Addr) : (ReflectliteValue.unpack (.iface 59 (.pointer (some t)))).run Tryd.prog w = .ok (rval 59 ⟨w.heap.size, 0, none⟩ 150) (w.alloc (.cells #[.pointer (some t)] 59)) := by kernel_rfl
theorem vOf_e (n : Int) : (ReflectliteValue.unpack (.iface 23 (.int .i64 n))).run Tryd.prog w = .ok (rval 23 ⟨w.heap.size, 0, none⟩ 130) (w.alloc (.cells #[.int .i64 n] 23)) := by kernel_rfl
def typeEntry : Array Value → Sem Value := ReflectliteValue.methodAny (ReflectliteValue.valueError "reflectlite.Value.Type" 0) fun t _ _ _ => ReflectliteType.toType t
theorem type_pe (a : Addr) : (typeEntry #[rval 59 a 150]).run Tryd.prog w = .ok (.iface 94 (.agg #[hdl 59])) w := by kernel_rfl
def kindEntry : Array Value → Sem Value := ReflectliteType.abiMethod fun t => do pure (.int .u8 (← Rtype.kind t))
theorem kind_pe : (kindEntry #[hdl 59]).run Tryd.prog w = .ok (.int .u8 22) w := by kernel_rfl
theorem kind_e : (kindEntry #[hdl 23]).run Tryd.prog w = .ok (.int .u8 2) w := by kernel_rfl
theorem m_kind (h : Value) : (Go.method 282 94 (.agg #[h]) "Kind").run Tryd.prog w = .ok (74, h) w := by kernel_rfl
theorem m_elem (h : Value) : (Go.method 282 94 (.agg #[h]) "Elem").run Tryd.prog w = .ok (108, .agg #[h]) w := by kernel_rfl
theorem m_impl (h : Value) : (Go.method 282 94 (.agg #[h]) "Implements").run Tryd.prog w = .ok (109, .agg #[h]) w := by kernel_rfl
theorem m_assign (h : Value) : (Go.method 282 94 (.agg #[h]) "AssignableTo").run Tryd.prog w = .ok (106, .agg #[h]) w := by kernel_rfl
theorem elem_pe : (ReflectliteType.method ReflectliteType.elem #[.agg #[hdl 59]]).run Tryd.prog w = .ok (.iface 94 (.agg #[hdl 23])) w := by kernel_rfl
def implEntry : Array Value → Sem Value := ReflectliteType.relation "Implements" ReflectliteType.implements_
theorem impl_e : (implEntry #[.agg #[hdl 23], .iface 94 (.agg #[hdl 40])]).run Tryd.prog w = .ok (.bool true) w := by kernel_rfl
theorem tOf_e (v : Value) : (ReflectliteType.typeOf #[.iface 23 v]).run Tryd.prog w = .ok (.iface 94 (.agg #[hdl 23])) w := by kernel_rfl
def assignEntry : Array Value → Sem Value := ReflectliteType.relation "AssignableTo" ReflectliteType.assignableTo
theorem assign_ee : (assignEntry #[.agg #[hdl 23], .iface 94 (.agg #[hdl 23])]).run Tryd.prog w = .ok (.bool true) w := by kernel_rfl
theorem noAs_e (v : Value) (xT : TypeId) : (Instr.typeAssert (.iface 23 v) xT 108 true).run Tryd.prog w = .ok (.tuple #[.nilIface, .bool false]) w := run_typeAssert_lacksB Tryd.underlying108 (by kernel_rfl) (by kernel_rfl) v xT w
theorem noUn_e (v : Value) (xT : TypeId) : (Instr.typeAssert (.iface 23 v) xT 99 true).run Tryd.prog w = .ok (.tuple #[.nilIface, .bool false]) w := run_typeAssert_lacksB Tryd.underlying99 (by kernel_rfl) (by kernel_rfl) v xT w
theorem noUns_e (v : Value) (xT : TypeId) : (Instr.typeAssert (.iface 23 v) xT 101 true).run Tryd.prog w = .ok (.tuple #[.nilIface, .bool false]) w := run_typeAssert_lacksB Tryd.underlying101 (by kernel_rfl) (by kernel_rfl) v xT w
end
def nilEntry : Array Value → Sem Value := ReflectliteValue.method (ReflectliteValue.valueError "reflectlite.Value.IsNil" 0) ReflectliteValue.isNil
def elemEntry : Array Value → Sem Value := ReflectliteValue.method (ReflectliteValue.valueError "reflectlite.Value.Elem" 0) ReflectliteValue.elem
section
variable (W : World)
theorem parts_pe (a : Addr) : (ReflectliteValue.parts (rval 59 a 150)).run Tryd.prog W = .ok (some (59, a, 150)) W := by kernel_rfl
theorem parts_e (a : Addr) : (ReflectliteValue.parts (rval 23 a 130)).run Tryd.prog W = .ok (some (23, a, 130)) W := by kernel_rfl
theorem parts_ev (a : Addr) : (ReflectliteValue.parts (rval 23 a 386)).run Tryd.prog W = .ok (some (23, a, 386)) W := by kernel_rfl
theorem el_pe : (Rtype.elem? 59).run Tryd.prog W = .ok (some 23) W := by kernel_rfl
theorem mk_e (p : Addr) : (ReflectliteValue.mk 23 p ReflectliteValue.flagAddr).run Tryd.prog W = .ok (rval 23 p 386) W := by kernel_rfl
theorem dir_ee : (Rtype.directlyAssignable 23 23).run Tryd.prog W = .ok true W := by kernel_rfl
theorem nil_pe (a p : Addr) (ha : W.cell? a = some (.pointer (some p))) : (nilEntry #[rval 59 a 150]).run Tryd.prog W = .ok (.bool false) W := by
  show (ReflectliteValue.parts (rval 59 a 150) >>= _).run _ _ = _
  rw [Sem.run_bind, parts_pe]
  simp [ReflectliteValue.isNil, loadVar, isAgg, underlying, Tryd.underlying59, ha, Result.andThen]
theorem elemV_pe (a p : Addr) (ha : W.cell? a = some (.pointer (some p))) : (elemEntry #[rval 59 a 150]).run Tryd.prog W = .ok (rval 23 p 386) W := by
  show (ReflectliteValue.parts (rval 59 a 150) >>= _).run _ _ = _
  rw [Sem.run_bind, parts_pe]
  simp [ReflectliteValue.elem, loadVar, isAgg, underlying, Tryd.underlying59, ha, Result.andThen, el_pe, mk_e]
/-- (Value).Set of an error number. -/
theorem set_e (g h : Nat) (n : Int) (o : Value) (ht : Var W g 23 #[o]) (hs : Var W h 23 #[.int .i64 n]) :
    (ReflectliteValue.set #[rval 23 ⟨g, 0, none⟩ 386, rval 23 ⟨h, 0, none⟩ 130]).run Tryd.prog W = .ok (.tuple #[]) (W.setCell ⟨g, 0, none⟩ (.int .i64 n)) := by
  have hb := hs.cell 0 rfl
  have hc := ht.cell 0 rfl
  have hf := ht.free 0
  show (ReflectliteValue.parts (rval 23 ⟨g, 0, none⟩ 386) >>= fun _ => ReflectliteValue.parts (rval 23 ⟨h, 0, none⟩ 130) >>= _).run _ _ = _
  simp only [Sem.run_bind, parts_ev, parts_e, Result.andThen]
  simp [ReflectliteValue.flagAddr, loadVar, isAgg, underlying, Tryd.underlying23, hb, Result.andThen, dir_ee, storeVar, Value.cells, storeCells, Addr.add]
  rw [run_store Tryd.prog W _ _ _ (by rfl)]
  simp [hc, hf]
end
theorem as_nil (t : Value) (w : World) : Calls Tryd.prog 21 #[.nilIface, t] w fun e w' => e = .returned (.bool false) ∧ w = w' := by
  go_enter Tryd.func21, Tryd.ntmps21
  go_wp2
  go_ret
  exact ⟨rfl, rfl⟩
/-- What is found: the variable has it, all else that was there is as it was. -/
def AsPost (ok : Bool) (g T : Nat) (cs : Array Value) (w : World) (e : Ending) (w' : World) : Prop :=
  e = .returned (.bool ok) ∧ Var w' g T cs ∧ Kept [g] w w'
section
variable (w : World) (c1 c2 c3 c4 : Array Value) (T1 T2 T3 T4 : TypeId)
theorem new1 : Var (w.alloc (.cells c1 T1)) w.heap.size T1 c1 := Var.new w c1 T1
theorem new2 : Var ((w.alloc (.cells c1 T1)).alloc (.cells c2 T2)) w.heap.size T1 c1 ∧ Var ((w.alloc (.cells c1 T1)).alloc (.cells c2 T2)) (w.heap.size + 1) T2 c2 :=
  ⟨(new1 w c1 T1).alloc _, by simpa only [World.size_alloc] using new1 (w.alloc (.cells c1 T1)) c2 T2⟩
theorem new3 : Var (((w.alloc (.cells c1 T1)).alloc (.cells c2 T2)).alloc (.cells c3 T3)) w.heap.size T1 c1 ∧ Var (((w.alloc (.cells c1 T1)).alloc (.cells c2 T2)).alloc (.cells c3 T3)) (w.heap.size + 1) T2 c2 ∧
    Var (((w.alloc (.cells c1 T1)).alloc (.cells c2 T2)).alloc (.cells c3 T3)) (w.heap.size + 1 + 1) T3 c3 :=
  ⟨(new2 w c1 c2 T1 T2).1.alloc _, (new2 w c1 c2 T1 T2).2.alloc _, by simpa only [World.size_alloc] using new1 ((w.alloc (.cells c1 T1)).alloc (.cells c2 T2)) c3 T3⟩
end
/-- The error of a field; what it wraps. -/
abbrev fltV (g : Nat) : Value := .iface 78 (.pointer (some ⟨g, 0, none⟩))
abbrev numV (n : Int) : Value := .iface 23 (.int .i64 n)
abbrev Flt (w : World) (g : Nat) (fld : ByteArray) (u : Value) : Prop := Var w g 80 #[.string fld, u]
/-- Wrapped m times at the most, in blocks above lo. -/
def Chain (w : World) (lo : Nat) (n : Int) : Nat → Value → Prop
  | 0, _ => False
  | m + 1, er => ∃ h fld u, er = fltV h ∧ lo < h ∧ Flt w h fld u ∧ (u = numV n ∨ Chain w lo n m u)
theorem Chain.more {w : World} {lo : Nat} {n : Int} : ∀ {m : Nat} {er : Value}, Chain w lo n m er → Chain w lo n (m + 1) er
  | 0, _, h => h.elim
  | _ + 1, _, ⟨h, fld, u, a, b, c, .inl d⟩ => ⟨h, fld, u, a, b, c, .inl d⟩
  | _ + 1, _, ⟨h, fld, u, a, b, c, .inr d⟩ => ⟨h, fld, u, a, b, c, .inr (Chain.more d)⟩
theorem Chain.turn {w w' : World} {lo : Nat} {n : Int} (k : ∀ h T cs, lo < h → T ≠ 5 → Var w h T cs → Var w' h T cs) : ∀ {m : Nat} {er : Value}, Chain w lo n m er → Chain w' lo n m er
  | 0, _, h => h.elim
  | _ + 1, _, ⟨h, fld, u, a, b, c, .inl d⟩ => ⟨h, fld, u, a, b, k _ _ _ b (by decide) c, .inl d⟩
  | _ + 1, _, ⟨h, fld, u, a, b, c, .inr d⟩ => ⟨h, fld, u, a, b, k _ _ _ b (by decide) c, .inr (Chain.turn k d)⟩
section
variable (w : World)
theorem tOf_f (v : Value) : (ReflectliteType.typeOf #[.iface 78 v]).run Tryd.prog w = .ok (.iface 94 (.agg #[hdl 78])) w := by kernel_rfl
theorem assign_fe : (assignEntry #[.agg #[hdl 78], .iface 94 (.agg #[hdl 23])]).run Tryd.prog w = .ok (.bool false) w := by kernel_rfl
theorem noAs_f (v : Value) (xT : TypeId) : (Instr.typeAssert (.iface 78 v) xT 108 true).run Tryd.prog w = .ok (.tuple #[.nilIface, .bool false]) w := run_typeAssert_lacksB Tryd.underlying108 (by kernel_rfl) (by kernel_rfl) v xT w
theorem noIs_f (v : Value) (xT : TypeId) : (Instr.typeAssert (.iface 78 v) xT 96 true).run Tryd.prog w = .ok (.tuple #[.nilIface, .bool false]) w := run_typeAssert_lacksB Tryd.underlying96 (by kernel_rfl) (by kernel_rfl) v xT w
theorem un_f (v : Value) (xT : TypeId) : (Instr.typeAssert (.iface 78 v) xT 99 true).run Tryd.prog w = .ok (.tuple #[.iface 78 v, .bool true]) w := run_typeAssert_hasB Tryd.underlying99 (by kernel_rfl) v xT w
theorem m_unwrap_f (v : Value) : (Go.method 282 78 v "Unwrap").run Tryd.prog w = .ok (101, v) w := by kernel_rfl
theorem eq_arg : (binOp .eql 40 (.iface 23 (.int .i64 2)) (.iface 23 (.int .i64 2))).run Tryd.prog w = .ok (.bool true) w := by kernel_rfl
end
theorem unwrap_f (g : Nat) (fld : ByteArray) (u : Value) (w : World) (h : Flt w g fld u) : Calls Tryd.prog 101 #[.pointer (some ⟨g, 0, none⟩)] w fun r w' => r = .returned u ∧ w = w' := by
  have c0 := h.cell 0 rfl
  have c1 := h.cell 1 rfl
  go_enter Tryd.func101, Tryd.ntmps101
  go_wp2
  go_ret
  exact ⟨rfl, rfl⟩
set_option maxRecDepth 100000 in
set_option maxHeartbeats 4000000 in
theorem as_f1 (g0 : Nat) (f0 : ByteArray) (g : Nat) (n : Int) (o : Value) (w : World) (hG : Glob w) (ht : Var w g 23 #[o]) (hF0 : Flt w g0 f0 (numV n)) :
    Calls Tryd.prog 21 #[fltV g0, .iface 59 (.pointer (some ⟨g, 0, none⟩))] w (AsPost true g 23 #[.int .i64 n] w) := by
  have x1 := @run_callFunc_extern Tryd.prog 32 _ (fun args => ReflectliteValue.unpack (args.getD 0 (.tuple #[]))) Tryd.func32 (by kernel_rfl) (by kernel_rfl) (by kernel_rfl) (by kernel_rfl)
  have x2 := @run_callFunc_extern Tryd.prog 33 _ typeEntry Tryd.func33 (by kernel_rfl) (by kernel_rfl) (by kernel_rfl) (by kernel_rfl)
  have x3 := @run_callFunc_extern Tryd.prog 34 _ nilEntry Tryd.func34 (by kernel_rfl) (by kernel_rfl) (by kernel_rfl) (by kernel_rfl)
  have x4 := @run_callFunc_extern Tryd.prog 74 _ kindEntry Tryd.func74 (by kernel_rfl) (by kernel_rfl) (by kernel_rfl) (by kernel_rfl)
  have x5 := @run_callFunc_extern Tryd.prog 108 _ (ReflectliteType.method ReflectliteType.elem) Tryd.func108 (by kernel_rfl) (by kernel_rfl) (by kernel_rfl) (by kernel_rfl)
  have x6 := @run_callFunc_extern Tryd.prog 109 _ implEntry Tryd.func109 (by kernel_rfl) (by kernel_rfl) (by kernel_rfl) (by kernel_rfl)
  have x7 := @run_callFunc_extern Tryd.prog 24 _ ReflectliteType.typeOf Tryd.func24 (by kernel_rfl) (by kernel_rfl) (by kernel_rfl) (by kernel_rfl)
  have x8 := @run_callFunc_extern Tryd.prog 106 _ assignEntry Tryd.func106 (by kernel_rfl) (by kernel_rfl) (by kernel_rfl) (by kernel_rfl)
  have x9 := @run_callFunc_extern Tryd.prog 40 _ elemEntry Tryd.func40 (by kernel_rfl) (by kernel_rfl) (by kernel_rfl) (by kernel_rfl)
  have x10 := @run_callFunc_extern Tryd.prog 41 _ ReflectliteValue.set Tryd.func41 (by kernel_rfl) (by kernel_rfl) (by kernel_rfl) (by kernel_rfl)
  have k1 := vOf_pe
  have k2 := vOf_e
  have k3 := type_pe
  have k4 := kind_pe
  have k5 := kind_e
  have k6 := m_kind
  have k7 := m_elem
  have k8 := m_impl
  have k9 := m_assign
  have k10 := elem_pe
  have k11 := impl_e
  have k12 := tOf_e
  have k13 := assign_ee
  have k14 := tOf_f
  have k15 := assign_fe
  have k16 := noAs_f
  have k17 := un_f
  have k18 := m_unwrap_f
  have n1 := fun W => nil_pe W ⟨w.heap.size, 0, none⟩ ⟨g, 0, none⟩
  have hg0 : w.cell? ⟨0, 0, none⟩ = some (.iface 94 (.agg #[hdl 40])) := hG
  have hpos := hG.pos
  have hgl := ht.lt
  obtain ⟨w3, hw3⟩ : ∃ w3, w3 = ((w.alloc (.cells #[.pointer (some ⟨g, 0, none⟩)] 59)).alloc (.cells #[hdl 59, .pointer (some ⟨w.heap.size, 0, none⟩), .int .u64 150] 84)).alloc (.cells #[hdl 59, .pointer (some ⟨w.heap.size, 0, none⟩), .int .u64 150] 84) := ⟨_, rfl⟩
  have hG0 : Flt w3 g0 f0 (numV n) := by rw [hw3]; exact ((hF0.alloc _).alloc _).alloc _
  have n2 := elemV_pe w3 ⟨w.heap.size, 0, none⟩ ⟨g, 0, none⟩ (by rw [hw3]; exact (new3 w _ _ _ _ _ _).1.cell 0 rfl)
  obtain ⟨w4, hw4⟩ : ∃ w4, w4 = w3.alloc (.cells #[.int .i64 n] 23) := ⟨_, rfl⟩
  have ht4 : Var w4 g 23 #[o] := by rw [hw4, hw3]; exact (((ht.alloc _).alloc _).alloc _).alloc _
  have hs4 : Var w4 (w.heap.size + 1 + 1 + 1) 23 #[.int .i64 n] := by
    rw [hw4]
    have := Var.new w3 #[.int .i64 n] 23
    rw [hw3] at this ⊢
    simpa only [World.size_alloc] using this
  have hk4 : Kept [g] w w4 := by rw [hw4, hw3]; exact ((((Kept.refl _ _).alloc _).alloc _).alloc _).alloc _
  have st := set_e w4 g _ n o ht4 hs4
  have hfin : AsPost true g 23 #[.int .i64 n] w (.returned (.bool true)) (w4.setCell ⟨g, 0, none⟩ (.int .i64 n)) := ⟨rfl, by simpa using ht4.set 0 (.int .i64 n), hk4.setCell (.inl (by simp)) _⟩
  have HF0 := Lib.hid hG0
  subst hw4
  subst hw3
  have HFIN := Lib.hid hfin
  clear hfin hk4 hs4 ht4 ht hG hF0 hG0
  go_enter Tryd.func21, Tryd.ntmps21
  go_wp2
  refine wp_loop_rounds 2 ?_
  rw [rounds_succ]
  go_wp2_with (go_at_call 101; refine (unwrap_f g0 f0 _ _ HF0.out).mono ?_; rintro e w1 ⟨rfl, rfl⟩)
  rw [rounds_succ]
  go_wp2
  go_ret
  exact HFIN.out
set_option maxRecDepth 100000 in
set_option maxHeartbeats 4000000 in
theorem as_f2 (g0 : Nat) (f0 : ByteArray) (g1 : Nat) (f1 : ByteArray) (g : Nat) (n : Int) (o : Value) (w : World) (hG : Glob w) (ht : Var w g 23 #[o]) (hF0 : Flt w g0 f0 (fltV g1)) (hF1 : Flt w g1 f1 (numV n)) :
    Calls Tryd.prog 21 #[fltV g0, .iface 59 (.pointer (some ⟨g, 0, none⟩))] w (AsPost true g 23 #[.int .i64 n] w) := by
  have x1 := @run_callFunc_extern Tryd.prog 32 _ (fun args => ReflectliteValue.unpack (args.getD 0 (.tuple #[]))) Tryd.func32 (by kernel_rfl) (by kernel_rfl) (by kernel_rfl) (by kernel_rfl)
  have x2 := @run_callFunc_extern Tryd.prog 33 _ typeEntry Tryd.func33 (by kernel_rfl) (by kernel_rfl) (by kernel_rfl) (by kernel_rfl)
  have x3 := @run_callFunc_extern Tryd.prog 34 _ nilEntry Tryd.func34 (by kernel_rfl) (by kernel_rfl) (by kernel_rfl) (by kernel_rfl)
  have x4 := @run_callFunc_extern Tryd.prog 74 _ kindEntry Tryd.func74 (by kernel_rfl) (by kernel_rfl) (by kernel_rfl) (by kernel_rfl)
  have x5 := @run_callFunc_extern Tryd.prog 108 _ (ReflectliteType.method ReflectliteType.elem) Tryd.func108 (by kernel_rfl) (by kernel_rfl) (by kernel_rfl) (by kernel_rfl)
  have x6 := @run_callFunc_extern Tryd.prog 109 _ implEntry Tryd.func109 (by kernel_rfl) (by kernel_rfl) (by kernel_rfl) (by kernel_rfl)
  have x7 := @run_callFunc_extern Tryd.prog 24 _ ReflectliteType.typeOf Tryd.func24 (by kernel_rfl) (by kernel_rfl) (by kernel_rfl) (by kernel_rfl)
  have x8 := @run_callFunc_extern Tryd.prog 106 _ assignEntry Tryd.func106 (by kernel_rfl) (by kernel_rfl) (by kernel_rfl) (by kernel_rfl)
  have x9 := @run_callFunc_extern Tryd.prog 40 _ elemEntry Tryd.func40 (by kernel_rfl) (by kernel_rfl) (by kernel_rfl) (by kernel_rfl)
  have x10 := @run_callFunc_extern Tryd.prog 41 _ ReflectliteValue.set Tryd.func41 (by kernel_rfl) (by kernel_rfl) (by kernel_rfl) (by kernel_rfl)
  have k1 := vOf_pe
  have k2 := vOf_e
  have k3 := type_pe
  have k4 := kind_pe
  have k5 := kind_e
  have k6 := m_kind
  have k7 := m_elem
  have k8 := m_impl
  have k9 := m_assign
  have k10 := elem_pe
  have k11 := impl_e
  have k12 := tOf_e
  have k13 := assign_ee
  have k14 := tOf_f
  have k15 := assign_fe
  have k16 := noAs_f
  have k17 := un_f
  have k18 := m_unwrap_f
  have n1 := fun W => nil_pe W ⟨w.heap.size, 0, none⟩ ⟨g, 0, none⟩
  have hg0 : w.cell? ⟨0, 0, none⟩ = some (.iface 94 (.agg #[hdl 40])) := hG
  have hpos := hG.pos
  have hgl := ht.lt
  obtain ⟨w3, hw3⟩ : ∃ w3, w3 = ((w.alloc (.cells #[.pointer (some ⟨g, 0, none⟩)] 59)).alloc (.cells #[hdl 59, .pointer (some ⟨w.heap.size, 0, none⟩), .int .u64 150] 84)).alloc (.cells #[hdl 59, .pointer (some ⟨w.heap.size, 0, none⟩), .int .u64 150] 84) := ⟨_, rfl⟩
  have hG0 : Flt w3 g0 f0 (fltV g1) := by rw [hw3]; exact ((hF0.alloc _).alloc _).alloc _
  have hG1 : Flt w3 g1 f1 (numV n) := by rw [hw3]; exact ((hF1.alloc _).alloc _).alloc _
  have n2 := elemV_pe w3 ⟨w.heap.size, 0, none⟩ ⟨g, 0, none⟩ (by rw [hw3]; exact (new3 w _ _ _ _ _ _).1.cell 0 rfl)
  obtain ⟨w4, hw4⟩ : ∃ w4, w4 = w3.alloc (.cells #[.int .i64 n] 23) := ⟨_, rfl⟩
  have ht4 : Var w4 g 23 #[o] := by rw [hw4, hw3]; exact (((ht.alloc _).alloc _).alloc _).alloc _
  have hs4 : Var w4 (w.heap.size + 1 + 1 + 1) 23 #[.int .i64 n] := by
    rw [hw4]
    have := Var.new w3 #[.int .i64 n] 23
    rw [hw3] at this ⊢
    simpa only [World.size_alloc] using this
  have hk4 : Kept [g] w w4 := by rw [hw4, hw3]; exact ((((Kept.refl _ _).alloc _).alloc _).alloc _).alloc _
  have st := set_e w4 g _ n o ht4 hs4
  have hfin : AsPost true g 23 #[.int .i64 n] w (.returned (.bool true)) (w4.setCell ⟨g, 0, none⟩ (.int .i64 n)) := ⟨rfl, by simpa using ht4.set 0 (.int .i64 n), hk4.setCell (.inl (by simp)) _⟩
  have HF0 := Lib.hid hG0
  have HF1 := Lib.hid hG1
  subst hw4
  subst hw3
  have HFIN := Lib.hid hfin
  clear hfin hk4 hs4 ht4 ht hG hF0 hG0 hF1 hG1
  go_enter Tryd.func21, Tryd.ntmps21
  go_wp2
  refine wp_loop_rounds 3 ?_
  rw [rounds_succ]
  go_wp2_with (go_at_call 101; refine (unwrap_f g0 f0 _ _ HF0.out).mono ?_; rintro e w1 ⟨rfl, rfl⟩)
  rw [rounds_succ]
  go_wp2_with (go_at_call 101; refine (unwrap_f g1 f1 _ _ HF1.out).mono ?_; rintro e w1 ⟨rfl, rfl⟩)
  rw [rounds_succ]
  go_wp2
  go_ret
  exact HFIN.out
set_option maxRecDepth 100000 in
set_option maxHeartbeats 1000000 in
theorem is_f1 (g0 : Nat) (f0 : ByteArray) (w : World) (hF0 : Flt w g0 f0 (numV 2)) : Calls Tryd.prog 17 #[fltV g0, numV 2] w fun e w' => e = .returned (.bool true) ∧ Below w.heap.size w w' := by
  have h8 := @run_callFunc_extern Tryd.prog 24 _ Extern.ReflectliteType.typeOf Tryd.func24 (by kernel_rfl) (by kernel_rfl) (by kernel_rfl) (by kernel_rfl)
  have h32 := @run_callFunc_extern Tryd.prog 107 _ cmpEntry Tryd.func107 (by kernel_rfl) (by kernel_rfl) (by kernel_rfl) (by kernel_rfl)
  have tT := is_typeOf
  have cT := is_comparable
  have mR := is_methodComparable
  have mU := m_unwrap_f
  have nW := noIs_f
  have uW := un_f
  have heq := eq_arg
  have ht0 := run_eql_iface_types (P := Tryd.prog) 78 23 (.pointer (some ⟨g0, 0, none⟩)) (.int .i64 2) Tryd.underlying40 (by decide) w
  have HF0 := Lib.hid hF0
  clear hF0
  go_enter Tryd.func17, Tryd.ntmps17
  go_wp2
  refine wp_loop_rounds 2 ?_
  rw [rounds_succ]
  go_wp2_with (go_at_call 101; refine (unwrap_f g0 f0 _ _ HF0.out).mono ?_; rintro e w1 ⟨rfl, rfl⟩)
  rw [rounds_succ]
  go_wp2
  go_ret
  exact ⟨rfl, Below.refl _ _⟩
set_option maxRecDepth 100000 in
set_option maxHeartbeats 1000000 in
theorem is_f2 (g0 : Nat) (f0 : ByteArray) (g1 : Nat) (f1 : ByteArray) (w : World) (hF0 : Flt w g0 f0 (fltV g1)) (hF1 : Flt w g1 f1 (numV 2)) : Calls Tryd.prog 17 #[fltV g0, numV 2] w fun e w' => e = .returned (.bool true) ∧ Below w.heap.size w w' := by
  have h8 := @run_callFunc_extern Tryd.prog 24 _ Extern.ReflectliteType.typeOf Tryd.func24 (by kernel_rfl) (by kernel_rfl) (by kernel_rfl) (by kernel_rfl)
  have h32 := @run_callFunc_extern Tryd.prog 107 _ cmpEntry Tryd.func107 (by kernel_rfl) (by kernel_rfl) (by kernel_rfl) (by kernel_rfl)
  have tT := is_typeOf
  have cT := is_comparable
  have mR := is_methodComparable
  have mU := m_unwrap_f
  have nW := noIs_f
  have uW := un_f
  have heq := eq_arg
  have ht0 := run_eql_iface_types (P := Tryd.prog) 78 23 (.pointer (some ⟨g0, 0, none⟩)) (.int .i64 2) Tryd.underlying40 (by decide) w
  have HF0 := Lib.hid hF0
  clear hF0
  have ht1 := run_eql_iface_types (P := Tryd.prog) 78 23 (.pointer (some ⟨g1, 0, none⟩)) (.int .i64 2) Tryd.underlying40 (by decide) w
  have HF1 := Lib.hid hF1
  clear hF1
  go_enter Tryd.func17, Tryd.ntmps17
  go_wp2
  refine wp_loop_rounds 3 ?_
  rw [rounds_succ]
  go_wp2_with (go_at_call 101; refine (unwrap_f g0 f0 _ _ HF0.out).mono ?_; rintro e w1 ⟨rfl, rfl⟩)
  rw [rounds_succ]
  go_wp2_with (go_at_call 101; refine (unwrap_f g1 f1 _ _ HF1.out).mono ?_; rintro e w1 ⟨rfl, rfl⟩)
  rw [rounds_succ]
  go_wp2
  go_ret
  exact ⟨rfl, Below.refl _ _⟩
end Go.Proofs.YtplpagnnlggfgaaDoor
