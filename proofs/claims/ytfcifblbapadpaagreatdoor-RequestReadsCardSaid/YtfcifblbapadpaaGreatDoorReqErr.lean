/-
  errors.As at the error of a field of a request, and request's code. Conditions: the one package variable of errors holds what the program's text lays (Glob); that the error lies in memory.
-/
import Derived.Test.YtfcifblbapadpaaGreatDoorReqRd
import Derived.LaidEql
import Derived.Stop.Asserts
import Derived.RowKitTokens
namespace Go.Proofs.YtfcifblbapadpaaGreatDoor
open Go.RowKit Go.Extern.Stop Go.Stop Go.Extern

/-- What the one package variable of errors holds. -/
def Glob (w : World) : Prop := w.cell? ⟨0, 0, none⟩ = some (.iface 102 (.agg #[.pointer (some ⟨1, 39, none⟩)]))
theorem Glob.pos {w : World} (h : Glob w) : 0 < w.heap.size := World.block_lt_of_cell? w _ h
theorem Glob.below {w w' : World} {B : Nat} (h : Glob w) (hB : 0 < B) (hb : Below B w w') : Glob w' := (hb.cell (p := ⟨0, 0, none⟩) hB).trans h
theorem Glob.next {w w' : World} (h : Glob w) (hb : Below w.heap.size w w') : Glob w' := h.below h.pos hb
/-- The handle of a type. -/
abbrev hdl (t : TypeId) : Value := .pointer (some ⟨1, t, none⟩)
/-- A reflected value: its type, where it lies, its flags. -/
abbrev rval (t : TypeId) (a : Addr) (fl : Int) : Value := .agg #[hdl t, .pointer (some a), .int .u64 fl]
section
variable (w : World)
theorem vOf_pe (t : Addr) : (ReflectliteValue.unpack (.iface 64 (.pointer (some t)))).run Tryz.prog w = .ok (rval 64 ⟨w.heap.size, 0, none⟩ 150) (w.alloc (.cells #[.pointer (some t)] 64)) := by kernel_rfl
theorem vOf_e (n : Int) : (ReflectliteValue.unpack (.iface 30 (.int .i64 n))).run Tryz.prog w = .ok (rval 30 ⟨w.heap.size, 0, none⟩ 130) (w.alloc (.cells #[.int .i64 n] 30)) := by kernel_rfl
def typeEntry : Array Value → Sem Value := ReflectliteValue.methodAny (ReflectliteValue.valueError "reflectlite.Value.Type" 0) fun t _ _ _ => ReflectliteType.toType t
theorem type_pe (a : Addr) : (typeEntry #[rval 64 a 150]).run Tryz.prog w = .ok (.iface 102 (.agg #[hdl 64])) w := by kernel_rfl
def kindEntry : Array Value → Sem Value := ReflectliteType.abiMethod fun t => do pure (.int .u8 (← Rtype.kind t))
theorem kind_pe : (kindEntry #[hdl 64]).run Tryz.prog w = .ok (.int .u8 22) w := by kernel_rfl
theorem kind_e : (kindEntry #[hdl 30]).run Tryz.prog w = .ok (.int .u8 2) w := by kernel_rfl
theorem m_kind (h : Value) : (Go.method 272 102 (.agg #[h]) "Kind").run Tryz.prog w = .ok (102, h) w := by kernel_rfl
theorem m_elem (h : Value) : (Go.method 272 102 (.agg #[h]) "Elem").run Tryz.prog w = .ok (112, .agg #[h]) w := by kernel_rfl
theorem m_impl (h : Value) : (Go.method 272 102 (.agg #[h]) "Implements").run Tryz.prog w = .ok (113, .agg #[h]) w := by kernel_rfl
theorem m_assign (h : Value) : (Go.method 272 102 (.agg #[h]) "AssignableTo").run Tryz.prog w = .ok (110, .agg #[h]) w := by kernel_rfl
theorem elem_pe : (ReflectliteType.method ReflectliteType.elem #[.agg #[hdl 64]]).run Tryz.prog w = .ok (.iface 102 (.agg #[hdl 30])) w := by kernel_rfl
def implEntry : Array Value → Sem Value := ReflectliteType.relation "Implements" ReflectliteType.implements_
theorem impl_e : (implEntry #[.agg #[hdl 30], .iface 102 (.agg #[hdl 39])]).run Tryz.prog w = .ok (.bool true) w := by kernel_rfl
theorem tOf_e (v : Value) : (ReflectliteType.typeOf #[.iface 30 v]).run Tryz.prog w = .ok (.iface 102 (.agg #[hdl 30])) w := by kernel_rfl
def assignEntry : Array Value → Sem Value := ReflectliteType.relation "AssignableTo" ReflectliteType.assignableTo
theorem assign_ee : (assignEntry #[.agg #[hdl 30], .iface 102 (.agg #[hdl 30])]).run Tryz.prog w = .ok (.bool true) w := by kernel_rfl
theorem noAs_e (v : Value) (xT : TypeId) : (Instr.typeAssert (.iface 30 v) xT 107 true).run Tryz.prog w = .ok (.tuple #[.nilIface, .bool false]) w := run_typeAssert_lacksB Tryz.underlying107 (by kernel_rfl) (by kernel_rfl) v xT w
theorem noUn_e (v : Value) (xT : TypeId) : (Instr.typeAssert (.iface 30 v) xT 110 true).run Tryz.prog w = .ok (.tuple #[.nilIface, .bool false]) w := run_typeAssert_lacksB Tryz.underlying110 (by kernel_rfl) (by kernel_rfl) v xT w
theorem noUns_e (v : Value) (xT : TypeId) : (Instr.typeAssert (.iface 30 v) xT 111 true).run Tryz.prog w = .ok (.tuple #[.nilIface, .bool false]) w := run_typeAssert_lacksB Tryz.underlying111 (by kernel_rfl) (by kernel_rfl) v xT w
end
def nilEntry : Array Value → Sem Value := ReflectliteValue.method (ReflectliteValue.valueError "reflectlite.Value.IsNil" 0) ReflectliteValue.isNil
def elemEntry : Array Value → Sem Value := ReflectliteValue.method (ReflectliteValue.valueError "reflectlite.Value.Elem" 0) ReflectliteValue.elem
section
variable (W : World)
theorem parts_pe (a : Addr) : (ReflectliteValue.parts (rval 64 a 150)).run Tryz.prog W = .ok (some (64, a, 150)) W := by kernel_rfl
theorem parts_e (a : Addr) : (ReflectliteValue.parts (rval 30 a 130)).run Tryz.prog W = .ok (some (30, a, 130)) W := by kernel_rfl
theorem parts_ev (a : Addr) : (ReflectliteValue.parts (rval 30 a 386)).run Tryz.prog W = .ok (some (30, a, 386)) W := by kernel_rfl
theorem el_pe : (Rtype.elem? 64).run Tryz.prog W = .ok (some 30) W := by kernel_rfl
theorem mk_e (p : Addr) : (ReflectliteValue.mk 30 p ReflectliteValue.flagAddr).run Tryz.prog W = .ok (rval 30 p 386) W := by kernel_rfl
theorem dir_ee : (Rtype.directlyAssignable 30 30).run Tryz.prog W = .ok true W := by kernel_rfl
theorem nil_pe (a p : Addr) (ha : W.cell? a = some (.pointer (some p))) : (nilEntry #[rval 64 a 150]).run Tryz.prog W = .ok (.bool false) W := by
  show (ReflectliteValue.parts (rval 64 a 150) >>= _).run _ _ = _
  rw [Sem.run_bind, parts_pe]
  simp [ReflectliteValue.isNil, loadVar, isAgg, underlying, Tryz.underlying64, ha, Result.andThen]
theorem elemV_pe (a p : Addr) (ha : W.cell? a = some (.pointer (some p))) : (elemEntry #[rval 64 a 150]).run Tryz.prog W = .ok (rval 30 p 386) W := by
  show (ReflectliteValue.parts (rval 64 a 150) >>= _).run _ _ = _
  rw [Sem.run_bind, parts_pe]
  simp [ReflectliteValue.elem, loadVar, isAgg, underlying, Tryz.underlying64, ha, Result.andThen, el_pe, mk_e]
/-- (Value).Set of an error number. -/
theorem set_e (g h : Nat) (n : Int) (o : Value) (ht : Var W g 30 #[o]) (hs : Var W h 30 #[.int .i64 n]) :
    (ReflectliteValue.set #[rval 30 ⟨g, 0, none⟩ 386, rval 30 ⟨h, 0, none⟩ 130]).run Tryz.prog W = .ok (.tuple #[]) (W.setCell ⟨g, 0, none⟩ (.int .i64 n)) := by
  have hb := hs.cell 0 rfl
  have hc := ht.cell 0 rfl
  have hf := ht.free 0
  show (ReflectliteValue.parts (rval 30 ⟨g, 0, none⟩ 386) >>= fun _ => ReflectliteValue.parts (rval 30 ⟨h, 0, none⟩ 130) >>= _).run _ _ = _
  simp only [Sem.run_bind, parts_ev, parts_e, Result.andThen]
  simp [ReflectliteValue.flagAddr, loadVar, isAgg, underlying, Tryz.underlying30, hb, Result.andThen, dir_ee, storeVar, Value.cells, storeCells, Addr.add]
  rw [run_store Tryz.prog W _ _ _ (by rfl)]
  simp [hc, hf]
end
theorem as_nil (t : Value) (w : World) : Calls Tryz.prog 25 #[.nilIface, t] w fun e w' => e = .returned (.bool false) ∧ w = w' := by
  go_enter Tryz.func25, Tryz.ntmps25
  go_wp2
  go_ret
  exact ⟨rfl, rfl⟩
/-- What is found: the variable has it, all else that was there is as it was. -/
def AsPost (ok : Bool) (g T : Nat) (cs : Array Value) (w : World) (e : Ending) (w' : World) : Prop :=
  e = .returned (.bool ok) ∧ Var w' g T cs ∧ Kept [g] w w'
section
variable (w : World) (c1 c2 c3 c4 : Array Value) (T1 T2 T3 T4 : TypeId)
theorem new1 : Var (w.alloc (.cells c1 T1)) w.heap.size T1 c1 := Var.new w c1 T1
theorem new2 : Var ((w.alloc (.cells c1 T1)).alloc (.cells c2 T2)) w.heap.size T1 c1 ∧ Var ((w.alloc (.cells c1 T1)).alloc (.cells c2 T2)) (w.heap.size + 1) T2 c2 :=
  ⟨(new1 w c1 T1).alloc _, by simpa only [World.size_alloc] using new1 (w.alloc (.cells c1 T1)) c2 T2⟩
theorem new3 : Var (((w.alloc (.cells c1 T1)).alloc (.cells c2 T2)).alloc (.cells c3 T3)) w.heap.size T1 c1 ∧ Var (((w.alloc (.cells c1 T1)).alloc (.cells c2 T2)).alloc (.cells c3 T3)) (w.heap.size + 1) T2 c2 ∧
    Var (((w.alloc (.cells c1 T1)).alloc (.cells c2 T2)).alloc (.cells c3 T3)) (w.heap.size + 1 + 1) T3 c3 :=
  ⟨(new2 w c1 c2 T1 T2).1.alloc _, (new2 w c1 c2 T1 T2).2.alloc _, by simpa only [World.size_alloc] using new1 ((w.alloc (.cells c1 T1)).alloc (.cells c2 T2)) c3 T3⟩
end
/-- The error of a field. -/
abbrev qfV (g : Nat) : Value := .iface 118 (.pointer (some ⟨g, 0, none⟩))
abbrev QFlt (w : World) (g : Nat) (fld : ByteArray) (e : Int) : Prop := Var w g 120 #[.string fld, .int .i64 e]
section
variable (w : World)
theorem tOf_q (v : Value) : (ReflectliteType.typeOf #[.iface 118 v]).run Tryz.prog w = .ok (.iface 102 (.agg #[hdl 118])) w := by kernel_rfl
theorem assign_qe : (assignEntry #[.agg #[hdl 118], .iface 102 (.agg #[hdl 30])]).run Tryz.prog w = .ok (.bool false) w := by kernel_rfl
theorem noAs_q (v : Value) (xT : TypeId) : (Instr.typeAssert (.iface 118 v) xT 107 true).run Tryz.prog w = .ok (.tuple #[.nilIface, .bool false]) w := run_typeAssert_lacksB Tryz.underlying107 (by kernel_rfl) (by kernel_rfl) v xT w
theorem un_q (v : Value) (xT : TypeId) : (Instr.typeAssert (.iface 118 v) xT 110 true).run Tryz.prog w = .ok (.tuple #[.iface 118 v, .bool true]) w := run_typeAssert_hasB Tryz.underlying110 (by kernel_rfl) v xT w
theorem m_unwrap_q (v : Value) : (Go.method 272 118 v "Unwrap").run Tryz.prog w = .ok (121, v) w := by kernel_rfl
end
theorem unwrap_q (g : Nat) (file : ByteArray) (e : Int) (w : World) (h : QFlt w g file e) : Calls Tryz.prog 121 #[.pointer (some ⟨g, 0, none⟩)] w fun r w' => r = .returned (.iface 30 (.int .i64 e)) ∧ w = w' := by
  have c0 := h.cell 0 rfl
  have c1 := h.cell 1 rfl
  go_enter Tryz.func121, Tryz.ntmps121
  go_wp2
  go_ret
  exact ⟨rfl, rfl⟩
set_option maxRecDepth 100000 in
set_option maxHeartbeats 4000000 in
theorem as_qflt (g0 g : Nat) (file : ByteArray) (n : Int) (o : Value) (w : World) (hG : Glob w) (ht : Var w g 30 #[o]) (hF : QFlt w g0 file n) :
    Calls Tryz.prog 25 #[qfV g0, .iface 64 (.pointer (some ⟨g, 0, none⟩))] w (AsPost true g 30 #[.int .i64 n] w) := by
  have x1 := @run_callFunc_extern Tryz.prog 46 _ (fun args => ReflectliteValue.unpack (args.getD 0 (.tuple #[]))) Tryz.func46 (by kernel_rfl) (by kernel_rfl) (by kernel_rfl) (by kernel_rfl)
  have x2 := @run_callFunc_extern Tryz.prog 47 _ typeEntry Tryz.func47 (by kernel_rfl) (by kernel_rfl) (by kernel_rfl) (by kernel_rfl)
  have x3 := @run_callFunc_extern Tryz.prog 48 _ nilEntry Tryz.func48 (by kernel_rfl) (by kernel_rfl) (by kernel_rfl) (by kernel_rfl)
  have x4 := @run_callFunc_extern Tryz.prog 102 _ kindEntry Tryz.func102 (by kernel_rfl) (by kernel_rfl) (by kernel_rfl) (by kernel_rfl)
  have x5 := @run_callFunc_extern Tryz.prog 112 _ (ReflectliteType.method ReflectliteType.elem) Tryz.func112 (by kernel_rfl) (by kernel_rfl) (by kernel_rfl) (by kernel_rfl)
  have x6 := @run_callFunc_extern Tryz.prog 113 _ implEntry Tryz.func113 (by kernel_rfl) (by kernel_rfl) (by kernel_rfl) (by kernel_rfl)
  have x7 := @run_callFunc_extern Tryz.prog 63 _ ReflectliteType.typeOf Tryz.func63 (by kernel_rfl) (by kernel_rfl) (by kernel_rfl) (by kernel_rfl)
  have x8 := @run_callFunc_extern Tryz.prog 110 _ assignEntry Tryz.func110 (by kernel_rfl) (by kernel_rfl) (by kernel_rfl) (by kernel_rfl)
  have x9 := @run_callFunc_extern Tryz.prog 64 _ elemEntry Tryz.func64 (by kernel_rfl) (by kernel_rfl) (by kernel_rfl) (by kernel_rfl)
  have x10 := @run_callFunc_extern Tryz.prog 65 _ ReflectliteValue.set Tryz.func65 (by kernel_rfl) (by kernel_rfl) (by kernel_rfl) (by kernel_rfl)
  have k1 := vOf_pe
  have k2 := vOf_e
  have k3 := type_pe
  have k4 := kind_pe
  have k5 := kind_e
  have k6 := m_kind
  have k7 := m_elem
  have k8 := m_impl
  have k9 := m_assign
  have k10 := elem_pe
  have k11 := impl_e
  have k12 := tOf_e
  have k13 := assign_ee
  have k14 := tOf_q
  have k15 := assign_qe
  have k16 := noAs_q
  have k17 := un_q
  have k18 := m_unwrap_q
  have n1 := fun W => nil_pe W ⟨w.heap.size, 0, none⟩ ⟨g, 0, none⟩
  have hg0 : w.cell? ⟨0, 0, none⟩ = some (.iface 102 (.agg #[hdl 39])) := hG
  have hpos := hG.pos
  have hgl := ht.lt
  obtain ⟨w3, hw3⟩ : ∃ w3, w3 = ((w.alloc (.cells #[.pointer (some ⟨g, 0, none⟩)] 64)).alloc (.cells #[hdl 64, .pointer (some ⟨w.heap.size, 0, none⟩), .int .u64 150] 84)).alloc (.cells #[hdl 64, .pointer (some ⟨w.heap.size, 0, none⟩), .int .u64 150] 84) := ⟨_, rfl⟩
  have hF3 : QFlt w3 g0 file n := by rw [hw3]; exact ((hF.alloc _).alloc _).alloc _
  have n2 := elemV_pe w3 ⟨w.heap.size, 0, none⟩ ⟨g, 0, none⟩ (by rw [hw3]; exact (new3 w _ _ _ _ _ _).1.cell 0 rfl)
  obtain ⟨w4, hw4⟩ : ∃ w4, w4 = w3.alloc (.cells #[.int .i64 n] 30) := ⟨_, rfl⟩
  have ht4 : Var w4 g 30 #[o] := by rw [hw4, hw3]; exact (((ht.alloc _).alloc _).alloc _).alloc _
  have hs4 : Var w4 (w.heap.size + 1 + 1 + 1) 30 #[.int .i64 n] := by
    rw [hw4]
    have := Var.new w3 #[.int .i64 n] 30
    rw [hw3] at this ⊢
    simpa only [World.size_alloc] using this
  have hk4 : Kept [g] w w4 := by rw [hw4, hw3]; exact ((((Kept.refl _ _).alloc _).alloc _).alloc _).alloc _
  have st := set_e w4 g _ n o ht4 hs4
  have hfin : AsPost true g 30 #[.int .i64 n] w (.returned (.bool true)) (w4.setCell ⟨g, 0, none⟩ (.int .i64 n)) := ⟨rfl, by simpa using ht4.set 0 (.int .i64 n), hk4.setCell (.inl (by simp)) _⟩
  have HF := Lib.hid hF3
  subst hw4
  subst hw3
  have HFIN := Lib.hid hfin
  clear hfin hk4 hs4 ht4 ht hG hF hF3
  go_enter Tryz.func25, Tryz.ntmps25
  go_wp2
  refine wp_loop_rounds 2 ?_
  rw [rounds_succ]
  go_wp2_with (go_at_call 121; refine (unwrap_q g0 file n _ HF.out).mono ?_; rintro e w1 ⟨rfl, rfl⟩)
  rw [rounds_succ]
  go_wp2
  go_ret
  exact HFIN.out

/-! ### code -/
theorem code_nil (w : World) : Calls Tryz.prog 11 #[.nilIface] w fun r w' => r = .returned (.int .i64 0) ∧ Below w.heap.size w w' := by
  have b0 := below_new (w := w) (.cells #[.int .i64 0] 30)
  go_enter Tryz.func11, Tryz.ntmps11
  go_wp2_with fail
  refine (as_nil _ _).mono ?_
  rintro e w1 ⟨rfl, rfl⟩
  go_wp2
  go_ret
  exact ⟨rfl, b0⟩
set_option maxRecDepth 100000 in
theorem code_flt (h : Nat) (fld : ByteArray) (n : Int) (w : World) (hG : Glob w) (hf : QFlt w h fld n) : Calls Tryz.prog 11 #[qfV h] w fun r w' => r = .returned (.int .i64 n) ∧ Below w.heap.size w w' := by
  obtain ⟨W0, hW0⟩ : ∃ W0, W0 = w.alloc (.cells #[.int .i64 0] 30) := ⟨_, rfl⟩
  have v0 : Var W0 w.heap.size 30 #[.int .i64 0] := by rw [hW0]; exact Var.new _ _ _
  have b0 : Below w.heap.size w W0 := by rw [hW0]; exact below_new _
  have f0 := hf.below b0 hf.lt
  have g0 := hG.next b0
  have HW0 := Lib.hid hW0
  have HG := Lib.hid g0
  have HF := Lib.hid f0
  clear hW0 hf hG f0 g0
  go_enter Tryz.func11, Tryz.ntmps11
  go_wp2_with fail
  rw [← HW0.out]
  refine (as_qflt h w.heap.size fld n _ W0 HG.out v0 HF.out).mono ?_
  rintro e w1 ⟨rfl, v1, k1⟩
  have c1 := v1.cell 0 rfl
  have z1 := v1.lt
  have b1 := b0.trans (k1.below (B := w.heap.size) b0.size (by intro x hx; simp at hx; omega))
  clear v1 v0 HG HF HW0
  go_wp2
  go_ret
  exact ⟨rfl, b1⟩
end Go.Proofs.YtfcifblbapadpaaGreatDoor
