/-
  The laws' told: contracts of a fault's text, of errors.As at a fault's own type, of inner, of told. Conditions: the fault lies in memory, its number is one of those that a disk's operation returns; the one package variable of errors holds what the program's text lays (Glob).
-/
import Derived.Test.YtpppeadmhfggkaaGreatDoorFilSaid
namespace Go.Proofs.YtpppeadmhfggkaaGreatDoor
open Go.RowKit DP Go.Extern.Stop Go.Stop Go.Extern

set_option maxRecDepth 100000 in
set_option maxHeartbeats 1000000 in
theorem error_any (g : Nat) (op : Int) (file : ByteArray) (e : Int) (w : World) (h : FltAt w g op file e) (he : ErrNo e) (hf : file.size ≤ 1000) :
    Calls Tryz.prog 26 #[.pointer (some ⟨g, 0, none⟩)] w fun r w' => r = .returned (.string (fltS file e)) ∧ Below w.heap.size w w' := by
  obtain ⟨c0, c1, c2, cf⟩ := h.cells3
  have HE := Lib.hid he
  have hes := errS_size e
  go_enter Tryz.func26, Tryz.ntmps26
  go_wp2_with fail
  go_region_with (first
    | (go_at_call 27; refine (said_any HE.out _).mono ?_; rintro r w1 ⟨rfl, rfl⟩)
    | (go_at_call 46; refine (join_any w.heap.size file (errS e) _ hf (by omega) (by first | exact Var.new w.drew _ _ | exact Var.new w _ _)).mono ?_; rintro r w2 ⟨rfl, hb⟩))
  all_goals
    go_wp2
    go_ret
    exact ⟨rfl, ((Below.refl _ w).drew.alloc (Nat.le_refl _) _).trans (hb.mono (by simp))⟩

/-! ### errors.As at a fault's own type -/
section
variable (w : World)
theorem vOf_pp (t : Addr) : (ReflectliteValue.unpack (.iface 62 (.pointer (some t)))).run Tryz.prog w = .ok (rval 62 ⟨w.heap.size, 0, none⟩ 150) (w.alloc (.cells #[.pointer (some t)] 62)) := by kernel_rfl
theorem vOf_x (t : Addr) : (ReflectliteValue.unpack (.iface 60 (.pointer (some t)))).run Tryz.prog w = .ok (rval 60 ⟨w.heap.size, 0, none⟩ 150) (w.alloc (.cells #[.pointer (some t)] 60)) := by kernel_rfl
theorem type_pp (a : Addr) : (typeEntry #[rval 62 a 150]).run Tryz.prog w = .ok (.iface 116 (.agg #[hdl 62])) w := by kernel_rfl
theorem kind_pp : (kindEntry #[hdl 62]).run Tryz.prog w = .ok (.int .u8 22) w := by kernel_rfl
theorem kind_x : (kindEntry #[hdl 60]).run Tryz.prog w = .ok (.int .u8 22) w := by kernel_rfl
theorem elem_pp : (ReflectliteType.method ReflectliteType.elem #[.agg #[hdl 62]]).run Tryz.prog w = .ok (.iface 116 (.agg #[hdl 60])) w := by kernel_rfl
theorem impl_x : (implEntry #[.agg #[hdl 60], .iface 116 (.agg #[hdl 30])]).run Tryz.prog w = .ok (.bool true) w := by kernel_rfl
theorem assign_xx : (assignEntry #[.agg #[hdl 60], .iface 116 (.agg #[hdl 60])]).run Tryz.prog w = .ok (.bool true) w := by kernel_rfl
theorem parts_pp (a : Addr) : (ReflectliteValue.parts (rval 62 a 150)).run Tryz.prog w = .ok (some (62, a, 150)) w := by kernel_rfl
theorem parts_x (a : Addr) : (ReflectliteValue.parts (rval 60 a 150)).run Tryz.prog w = .ok (some (60, a, 150)) w := by kernel_rfl
theorem parts_xv (a : Addr) : (ReflectliteValue.parts (rval 60 a 406)).run Tryz.prog w = .ok (some (60, a, 406)) w := by kernel_rfl
theorem el_pp : (Rtype.elem? 62).run Tryz.prog w = .ok (some 60) w := by kernel_rfl
theorem mk_x (p : Addr) : (ReflectliteValue.mk 60 p ReflectliteValue.flagAddr).run Tryz.prog w = .ok (rval 60 p 406) w := by kernel_rfl
theorem dir_xx : (Rtype.directlyAssignable 60 60).run Tryz.prog w = .ok true w := by kernel_rfl
theorem nil_pp (a p : Addr) (ha : w.cell? a = some (.pointer (some p))) : (nilEntry #[rval 62 a 150]).run Tryz.prog w = .ok (.bool false) w := by
  show (ReflectliteValue.parts (rval 62 a 150) >>= _).run _ _ = _
  rw [Sem.run_bind, parts_pp]
  simp [ReflectliteValue.isNil, loadVar, isAgg, underlying, Tryz.underlying62, ha, Result.andThen]
theorem elemV_pp (a p : Addr) (ha : w.cell? a = some (.pointer (some p))) : (elemEntry #[rval 62 a 150]).run Tryz.prog w = .ok (rval 60 p 406) w := by
  show (ReflectliteValue.parts (rval 62 a 150) >>= _).run _ _ = _
  rw [Sem.run_bind, parts_pp]
  simp [ReflectliteValue.elem, loadVar, isAgg, underlying, Tryz.underlying62, ha, Result.andThen, el_pp, mk_x]
/-- (Value).Set of a fault. -/
theorem set_x (g h : Nat) (p : Addr) (o : Value) (ht : Var w g 60 #[o]) (hs : Var w h 60 #[.pointer (some p)]) :
    (ReflectliteValue.set #[rval 60 ⟨g, 0, none⟩ 406, rval 60 ⟨h, 0, none⟩ 150]).run Tryz.prog w = .ok (.tuple #[]) (w.setCell ⟨g, 0, none⟩ (.pointer (some p))) := by
  have hb := hs.cell 0 rfl
  have hc := ht.cell 0 rfl
  have hf := ht.free 0
  show (ReflectliteValue.parts (rval 60 ⟨g, 0, none⟩ 406) >>= fun _ => ReflectliteValue.parts (rval 60 ⟨h, 0, none⟩ 150) >>= _).run _ _ = _
  simp only [Sem.run_bind, parts_xv, parts_x, Result.andThen]
  simp [ReflectliteValue.flagAddr, loadVar, isAgg, underlying, Tryz.underlying60, hb, Result.andThen, dir_xx, storeVar, Value.cells, storeCells, Addr.add]
  rw [run_store Tryz.prog w _ _ _ (by rfl)]
  simp [hc, hf]
end

set_option maxRecDepth 100000 in
set_option maxHeartbeats 4000000 in
theorem as_flt_flt (g0 g : Nat) (o : Value) (w : World) (hG : Glob w) (ht : Var w g 60 #[o]) :
    Calls Tryz.prog 25 #[fltV g0, .iface 62 (.pointer (some ⟨g, 0, none⟩))] w (AsPost true g 60 #[.pointer (some ⟨g0, 0, none⟩)] w) := by
  have x1 := @run_callFunc_extern Tryz.prog 42 _ (fun args => ReflectliteValue.unpack (args.getD 0 (.tuple #[]))) Tryz.func42 (by kernel_rfl) (by kernel_rfl) (by kernel_rfl) (by kernel_rfl)
  have x2 := @run_callFunc_extern Tryz.prog 43 _ typeEntry Tryz.func43 (by kernel_rfl) (by kernel_rfl) (by kernel_rfl) (by kernel_rfl)
  have x3 := @run_callFunc_extern Tryz.prog 44 _ nilEntry Tryz.func44 (by kernel_rfl) (by kernel_rfl) (by kernel_rfl) (by kernel_rfl)
  have x4 := @run_callFunc_extern Tryz.prog 110 _ kindEntry Tryz.func110 (by kernel_rfl) (by kernel_rfl) (by kernel_rfl) (by kernel_rfl)
  have x5 := @run_callFunc_extern Tryz.prog 121 _ (ReflectliteType.method ReflectliteType.elem) Tryz.func121 (by kernel_rfl) (by kernel_rfl) (by kernel_rfl) (by kernel_rfl)
  have x6 := @run_callFunc_extern Tryz.prog 122 _ implEntry Tryz.func122 (by kernel_rfl) (by kernel_rfl) (by kernel_rfl) (by kernel_rfl)
  have x7 := @run_callFunc_extern Tryz.prog 36 _ ReflectliteType.typeOf Tryz.func36 (by kernel_rfl) (by kernel_rfl) (by kernel_rfl) (by kernel_rfl)
  have x8 := @run_callFunc_extern Tryz.prog 119 _ assignEntry Tryz.func119 (by kernel_rfl) (by kernel_rfl) (by kernel_rfl) (by kernel_rfl)
  have x9 := @run_callFunc_extern Tryz.prog 63 _ elemEntry Tryz.func63 (by kernel_rfl) (by kernel_rfl) (by kernel_rfl) (by kernel_rfl)
  have x10 := @run_callFunc_extern Tryz.prog 64 _ ReflectliteValue.set Tryz.func64 (by kernel_rfl) (by kernel_rfl) (by kernel_rfl) (by kernel_rfl)
  have k1 := vOf_pp
  have k2 := vOf_x
  have k3 := type_pp
  have k4 := kind_pp
  have k5 := kind_x
  have k6 := m_kind
  have k7 := m_elem
  have k8 := m_impl
  have k9 := m_assign
  have k10 := elem_pp
  have k11 := impl_x
  have k12 := tOf_x
  have k13 := assign_xx
  have n1 := fun W => nil_pp W ⟨w.heap.size, 0, none⟩ ⟨g, 0, none⟩
  have hg0 : w.cell? ⟨0, 0, none⟩ = some (.iface 116 (.agg #[hdl 30])) := hG
  have hpos := hG.pos
  have hgl := ht.lt
  obtain ⟨w3, hw3⟩ : ∃ w3, w3 = ((w.alloc (.cells #[.pointer (some ⟨g, 0, none⟩)] 62)).alloc (.cells #[hdl 62, .pointer (some ⟨w.heap.size, 0, none⟩), .int .u64 150] 87)).alloc (.cells #[hdl 62, .pointer (some ⟨w.heap.size, 0, none⟩), .int .u64 150] 87) := ⟨_, rfl⟩
  have n2 := elemV_pp w3 ⟨w.heap.size, 0, none⟩ ⟨g, 0, none⟩ (by rw [hw3]; exact (new3 w _ _ _ _ _ _).1.cell 0 rfl)
  obtain ⟨w4, hw4⟩ : ∃ w4, w4 = w3.alloc (.cells #[.pointer (some ⟨g0, 0, none⟩)] 60) := ⟨_, rfl⟩
  have ht4 : Var w4 g 60 #[o] := by rw [hw4, hw3]; exact (((ht.alloc _).alloc _).alloc _).alloc _
  have hs4 : Var w4 (w.heap.size + 1 + 1 + 1) 60 #[.pointer (some ⟨g0, 0, none⟩)] := by
    rw [hw4]
    have := Var.new w3 #[.pointer (some ⟨g0, 0, none⟩)] 60
    rw [hw3] at this ⊢
    simpa only [World.size_alloc] using this
  have hk4 : Kept [g] w w4 := by rw [hw4, hw3]; exact ((((Kept.refl _ _).alloc _).alloc _).alloc _).alloc _
  have st := set_x w4 g _ ⟨g0, 0, none⟩ o ht4 hs4
  have hfin : AsPost true g 60 #[.pointer (some ⟨g0, 0, none⟩)] w (.returned (.bool true)) (w4.setCell ⟨g, 0, none⟩ (.pointer (some ⟨g0, 0, none⟩))) := ⟨rfl, by simpa using ht4.set 0 (.pointer (some ⟨g0, 0, none⟩)), hk4.setCell (.inl (by simp)) _⟩
  subst hw4
  subst hw3
  have HFIN := Lib.hid hfin
  clear hfin hk4 hs4 ht4 ht hG
  go_enter Tryz.func25, Tryz.ntmps25
  go_wp2
  refine wp_loop_rounds 1 ?_
  rw [rounds_succ]
  go_wp2
  go_ret
  exact HFIN.out

set_option maxRecDepth 100000 in
set_option maxHeartbeats 400000 in
theorem inner_any (g : Nat) (op : Int) (file : ByteArray) (e : Int) (w : World) (h : FltAt w g op file e) :
    Calls Tryz.prog 28 #[.pointer (some ⟨g, 0, none⟩)] w fun r w' => r = .returned (.int .i64 e) ∧ w = w' := by
  have ht := fun (W : World) (xT : TypeId) => (show (Instr.typeAssert (.iface 34 (.int .i64 e)) xT 34 true).run Tryz.prog W = .ok (.tuple #[.int .i64 e, .bool true]) W by kernel_rfl)
  go_enter Tryz.func28, Tryz.ntmps28
  go_wp2_with fail
  refine (unwrap_x g op file e _ h).mono ?_
  rintro r w1 ⟨rfl, rfl⟩
  go_wp2
  go_ret
  exact ⟨rfl, rfl⟩

theorem told_none (op : Int) (name : ByteArray) (w : World) : Calls Tryz.prog 11 #[.nilIface, .int .i8 op, .string name, .int .i64 0] w fun r w' => r = .returned (.bool true) ∧ w = w' := by
  go_enter Tryz.func11, Tryz.ntmps11
  go_wp2
  go_ret
  exact ⟨rfl, rfl⟩
end Go.Proofs.YtpppeadmhfggkaaGreatDoor
