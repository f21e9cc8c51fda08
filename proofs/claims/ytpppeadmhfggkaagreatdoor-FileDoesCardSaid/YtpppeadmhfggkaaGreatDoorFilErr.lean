/-
  The error of an operation on a file (Fault): errors.Is and errors.As at it, and Code. Conditions: that the fault lies in memory; of errors.As: the one package variable of errors holds what the program's text lays (Glob).
-/
import Derived.Test.YtpppeadmhfggkaaGreatDoorDskAsD
namespace Go.Proofs.YtpppeadmhfggkaaGreatDoor
open Go.RowKit DP Go.Extern.Stop Go.Stop Go.Extern

/-- A fault as an error. -/
abbrev fltV (g : Nat) : Value := .iface 60 (.pointer (some ⟨g, 0, none⟩))
/-- A fault in memory. -/
abbrev FltAt (w : World) (g : Nat) (op : Int) (file : ByteArray) (e : Int) : Prop := Var w g 64 #[.int .i8 op, .string file, .int .i64 e]

/-! ### the model's entries at a fault -/
section
variable (w : World)
theorem tOf_x (v : Value) : (ReflectliteType.typeOf #[.iface 60 v]).run Tryz.prog w = .ok (.iface 116 (.agg #[hdl 60])) w := by kernel_rfl
theorem assign_xe : (assignEntry #[.agg #[hdl 60], .iface 116 (.agg #[hdl 34])]).run Tryz.prog w = .ok (.bool false) w := by kernel_rfl
theorem noAs_x (v : Value) (xT : TypeId) : (Instr.typeAssert (.iface 60 v) xT 128 true).run Tryz.prog w = .ok (.tuple #[.nilIface, .bool false]) w := run_typeAssert_lacksB Tryz.underlying128 (by kernel_rfl) (by kernel_rfl) v xT w
theorem noIs_x (v : Value) (xT : TypeId) : (Instr.typeAssert (.iface 60 v) xT 118 true).run Tryz.prog w = .ok (.tuple #[.nilIface, .bool false]) w := run_typeAssert_lacksB Tryz.underlying118 (by kernel_rfl) (by kernel_rfl) v xT w
theorem noIs_e (v : Value) (xT : TypeId) : (Instr.typeAssert (.iface 34 v) xT 118 true).run Tryz.prog w = .ok (.tuple #[.nilIface, .bool false]) w := run_typeAssert_lacksB Tryz.underlying118 (by kernel_rfl) (by kernel_rfl) v xT w
theorem un_x (v : Value) (xT : TypeId) : (Instr.typeAssert (.iface 60 v) xT 121 true).run Tryz.prog w = .ok (.tuple #[.iface 60 v, .bool true]) w := run_typeAssert_hasB Tryz.underlying121 (by kernel_rfl) v xT w
theorem m_unwrap_x (v : Value) : (Go.method 288 60 v "Unwrap").run Tryz.prog w = .ok (48, v) w := by kernel_rfl
def compEntry : Array Value → Sem Value := ReflectliteType.method fun t => do Rtype.noPackHeld "Comparable" t; pure (.bool (← typeInfo t).comparable)
theorem comp_e : (compEntry #[.agg #[hdl 34]]).run Tryz.prog w = .ok (.bool true) w := by kernel_rfl
theorem m_comp (v : Value) : (Go.method 288 116 v "Comparable").run Tryz.prog w = .ok (120, v) w := by kernel_rfl
/-- '==' of two error numbers. -/
theorem eql_ee (a b : Int) : (binOp .eql 30 (.iface 34 (.int .i64 a)) (.iface 34 (.int .i64 b))).run Tryz.prog w = .ok (.bool (a == b)) w := by kernel_rfl
theorem eql_xe (v u : Value) : (binOp .eql 30 (.iface 60 v) (.iface 34 u)).run Tryz.prog w = .ok (.bool false) w := run_eql_iface_types (P := Tryz.prog) 60 34 v u Tryz.underlying30 (by decide) w
end

theorem unwrap_x (g : Nat) (op : Int) (file : ByteArray) (e : Int) (w : World) (h : FltAt w g op file e) : Calls Tryz.prog 48 #[.pointer (some ⟨g, 0, none⟩)] w fun r w' => r = .returned (.iface 34 (.int .i64 e)) ∧ w = w' := by
  obtain ⟨c0, c1, c2, _⟩ := h.cells3
  go_enter Tryz.func48, Tryz.ntmps48
  go_wp2
  go_ret
  exact ⟨rfl, rfl⟩

set_option maxRecDepth 100000 in
set_option maxHeartbeats 1000000 in
theorem is_flt (g : Nat) (op : Int) (file : ByteArray) (e n : Int) (w : World) (h : FltAt w g op file e) :
    Calls Tryz.prog 20 #[fltV g, .iface 34 (.int .i64 n)] w fun r w' => r = .returned (.bool (decide (e = n))) ∧ w = w' := by
  have x1 := @run_callFunc_extern Tryz.prog 36 _ ReflectliteType.typeOf Tryz.func36 (by kernel_rfl) (by kernel_rfl) (by kernel_rfl) (by kernel_rfl)
  have x2 := @run_callFunc_extern Tryz.prog 120 _ compEntry Tryz.func120 (by kernel_rfl) (by kernel_rfl) (by kernel_rfl) (by kernel_rfl)
  have k1 := tOf_e
  have k2 := comp_e
  have k3 := m_comp
  have k4 := m_unwrap_x
  have k5 := noIs_x
  have k6 := noIs_e
  have k7 := un_x
  have k8 := noUn_e
  have k9 := noUns_e
  have k10 := eql_xe
  have hu := fun W => unwrap_x g op file e W
  by_cases hn : e = n
  · obtain rfl := hn
    have k11 : ∀ W, (binOp .eql 30 (.iface 34 (.int .i64 e)) (.iface 34 (.int .i64 e))).run Tryz.prog W = .ok (.bool true) W := fun W => by rw [eql_ee, beq_self_eq_true]
    rw [decide_eq_true rfl]
    go_enter Tryz.func20, Tryz.ntmps20
    go_wp2
    refine wp_loop_rounds 2 ?_
    rw [rounds_succ]
    go_wp2_with (go_at_call 48; refine (hu _ h).mono ?_; rintro r w1 ⟨rfl, rfl⟩)
    rw [rounds_succ]
    go_wp2
    go_ret
    exact ⟨rfl, rfl⟩
  · have k11 : ∀ W, (binOp .eql 30 (.iface 34 (.int .i64 e)) (.iface 34 (.int .i64 n))).run Tryz.prog W = .ok (.bool false) W := fun W => by rw [eql_ee, show (e == n) = false by simp [hn]]
    rw [decide_eq_false hn]
    clear hn
    go_enter Tryz.func20, Tryz.ntmps20
    go_wp2
    refine wp_loop_rounds 2 ?_
    rw [rounds_succ]
    go_wp2_with (go_at_call 48; refine (hu _ h).mono ?_; rintro r w1 ⟨rfl, rfl⟩)
    rw [rounds_succ]
    go_wp2
    go_ret
    exact ⟨rfl, rfl⟩

set_option maxRecDepth 100000 in
set_option maxHeartbeats 4000000 in
theorem as_flt_errno (g0 g : Nat) (op : Int) (file : ByteArray) (n : Int) (o : Value) (w : World) (hG : Glob w) (ht : Var w g 34 #[o]) (hF : FltAt w g0 op file n) :
    Calls Tryz.prog 25 #[fltV g0, .iface 74 (.pointer (some ⟨g, 0, none⟩))] w (AsPost true g 34 #[.int .i64 n] w) := by
  have x1 := @run_callFunc_extern Tryz.prog 42 _ (fun args => ReflectliteValue.unpack (args.getD 0 (.tuple #[]))) Tryz.func42 (by kernel_rfl) (by kernel_rfl) (by kernel_rfl) (by kernel_rfl)
  have x2 := @run_callFunc_extern Tryz.prog 43 _ typeEntry Tryz.func43 (by kernel_rfl) (by kernel_rfl) (by kernel_rfl) (by kernel_rfl)
  have x3 := @run_callFunc_extern Tryz.prog 44 _ nilEntry Tryz.func44 (by kernel_rfl) (by kernel_rfl) (by kernel_rfl) (by kernel_rfl)
  have x4 := @run_callFunc_extern Tryz.prog 110 _ kindEntry Tryz.func110 (by kernel_rfl) (by kernel_rfl) (by kernel_rfl) (by kernel_rfl)
  have x5 := @run_callFunc_extern Tryz.prog 121 _ (ReflectliteType.method ReflectliteType.elem) Tryz.func121 (by kernel_rfl) (by kernel_rfl) (by kernel_rfl) (by kernel_rfl)
  have x6 := @run_callFunc_extern Tryz.prog 122 _ implEntry Tryz.func122 (by kernel_rfl) (by kernel_rfl) (by kernel_rfl) (by kernel_rfl)
  have x7 := @run_callFunc_extern Tryz.prog 36 _ ReflectliteType.typeOf Tryz.func36 (by kernel_rfl) (by kernel_rfl) (by kernel_rfl) (by kernel_rfl)
  have x8 := @run_callFunc_extern Tryz.prog 119 _ assignEntry Tryz.func119 (by kernel_rfl) (by kernel_rfl) (by kernel_rfl) (by kernel_rfl)
  have x9 := @run_callFunc_extern Tryz.prog 63 _ elemEntry Tryz.func63 (by kernel_rfl) (by kernel_rfl) (by kernel_rfl) (by kernel_rfl)
  have x10 := @run_callFunc_extern Tryz.prog 64 _ ReflectliteValue.set Tryz.func64 (by kernel_rfl) (by kernel_rfl) (by kernel_rfl) (by kernel_rfl)
  have k1 := vOf_pe
  have k2 := vOf_e
  have k3 := type_pe
  have k4 := kind_pe
  have k5 := kind_e
  have k6 := m_kind
  have k7 := m_elem
  have k8 := m_impl
  have k9 := m_assign
  have k10 := elem_pe
  have k11 := impl_e
  have k12 := tOf_e
  have k13 := assign_ee
  have k14 := tOf_x
  have k15 := assign_xe
  have k16 := noAs_x
  have k17 := un_x
  have k18 := m_unwrap_x
  have n1 := fun W => nil_pe W ⟨w.heap.size, 0, none⟩ ⟨g, 0, none⟩
  have hg0 : w.cell? ⟨0, 0, none⟩ = some (.iface 116 (.agg #[hdl 30])) := hG
  have hpos := hG.pos
  have hgl := ht.lt
  obtain ⟨w3, hw3⟩ : ∃ w3, w3 = ((w.alloc (.cells #[.pointer (some ⟨g, 0, none⟩)] 74)).alloc (.cells #[hdl 74, .pointer (some ⟨w.heap.size, 0, none⟩), .int .u64 150] 87)).alloc (.cells #[hdl 74, .pointer (some ⟨w.heap.size, 0, none⟩), .int .u64 150] 87) := ⟨_, rfl⟩
  have hF3 : FltAt w3 g0 op file n := by rw [hw3]; exact ((hF.alloc _).alloc _).alloc _
  have n2 := elemV_pe w3 ⟨w.heap.size, 0, none⟩ ⟨g, 0, none⟩ (by rw [hw3]; exact (new3 w _ _ _ _ _ _).1.cell 0 rfl)
  obtain ⟨w4, hw4⟩ : ∃ w4, w4 = w3.alloc (.cells #[.int .i64 n] 34) := ⟨_, rfl⟩
  have ht4 : Var w4 g 34 #[o] := by rw [hw4, hw3]; exact (((ht.alloc _).alloc _).alloc _).alloc _
  have hs4 : Var w4 (w.heap.size + 1 + 1 + 1) 34 #[.int .i64 n] := by
    rw [hw4]
    have := Var.new w3 #[.int .i64 n] 34
    rw [hw3] at this ⊢
    simpa only [World.size_alloc] using this
  have hk4 : Kept [g] w w4 := by rw [hw4, hw3]; exact ((((Kept.refl _ _).alloc _).alloc _).alloc _).alloc _
  have st := set_e w4 g _ n o ht4 hs4
  have hfin : AsPost true g 34 #[.int .i64 n] w (.returned (.bool true)) (w4.setCell ⟨g, 0, none⟩ (.int .i64 n)) := ⟨rfl, by simpa using ht4.set 0 (.int .i64 n), hk4.setCell (.inl (by simp)) _⟩
  have HF := Lib.hid hF3
  subst hw4
  subst hw3
  have HFIN := Lib.hid hfin
  clear hfin hk4 hs4 ht4 ht hG hF hF3
  go_enter Tryz.func25, Tryz.ntmps25
  go_wp2
  refine wp_loop_rounds 2 ?_
  rw [rounds_succ]
  go_wp2_with (go_at_call 48; refine (unwrap_x g0 op file n _ HF.out).mono ?_; rintro e w1 ⟨rfl, rfl⟩)
  rw [rounds_succ]
  go_wp2
  go_ret
  exact HFIN.out

set_option maxHeartbeats 400000 in
theorem code_nil (w : World) : Calls Tryz.prog 21 #[.nilIface] w fun r w' => r = .returned (.int .i64 0) ∧ w = w' := by
  go_enter Tryz.func21, Tryz.ntmps21
  go_wp2
  go_ret
  exact ⟨rfl, rfl⟩
set_option maxHeartbeats 400000 in
theorem code_flt (g : Nat) (op : Int) (file : ByteArray) (e : Int) (w : World) (hG : Glob w) (h : FltAt w g op file e) : Calls Tryz.prog 21 #[fltV g] w fun r w' => r = .returned (.int .i64 e) ∧ Below w.heap.size w w' := by
  go_enter Tryz.func21, Tryz.ntmps21
  go_wp2_with fail
  have hb := bel1 w #[.int .i64 0] 34
  refine (as_flt_errno g w.heap.size op file e _ _ (hG.next hb) (new1 w _ _) (h.alloc _)).mono ?_
  rintro r w1 ⟨rfl, hv, hk⟩
  have c0 := hv.cell 0 rfl
  go_wp2
  go_ret
  exact ⟨rfl, hb.trans (hk.below (by simp) (by simp))⟩
end Go.Proofs.YtpppeadmhfggkaaGreatDoor
