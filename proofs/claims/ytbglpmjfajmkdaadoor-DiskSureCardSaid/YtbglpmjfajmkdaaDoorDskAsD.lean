/-
  errors.As at the errors of disk: the contracts. Conditions: the one package variable of errors holds what the program's text lays (Glob).
-/
import Derived.Test.YtbglpmjfajmkdaaDoorDskAsC
namespace Go.Proofs.YtbglpmjfajmkdaaDoor
open Go.RowKit DP Go.Extern.Stop Go.Stop Go.Extern

set_option maxRecDepth 100000 in
set_option maxHeartbeats 4000000 in
theorem as_errno_hit (g : Nat) (n : Int) (o : Value) (w : World) (hG : Glob w) (ht : Var w g 33 #[o]) :
    Calls Tryd.prog 34 #[.iface 33 (.int .i64 n), .iface 67 (.pointer (some ⟨g, 0, none⟩))] w (AsPost true g 33 #[.int .i64 n] w) := by
  have x1 := @run_callFunc_extern Tryd.prog 46 _ (fun args => ReflectliteValue.unpack (args.getD 0 (.tuple #[]))) Tryd.func46 (by kernel_rfl) (by kernel_rfl) (by kernel_rfl) (by kernel_rfl)
  have x2 := @run_callFunc_extern Tryd.prog 47 _ typeEntry Tryd.func47 (by kernel_rfl) (by kernel_rfl) (by kernel_rfl) (by kernel_rfl)
  have x3 := @run_callFunc_extern Tryd.prog 48 _ nilEntry Tryd.func48 (by kernel_rfl) (by kernel_rfl) (by kernel_rfl) (by kernel_rfl)
  have x4 := @run_callFunc_extern Tryd.prog 71 _ kindEntry Tryd.func71 (by kernel_rfl) (by kernel_rfl) (by kernel_rfl) (by kernel_rfl)
  have x5 := @run_callFunc_extern Tryd.prog 82 _ (ReflectliteType.method ReflectliteType.elem) Tryd.func82 (by kernel_rfl) (by kernel_rfl) (by kernel_rfl) (by kernel_rfl)
  have x6 := @run_callFunc_extern Tryd.prog 83 _ implEntry Tryd.func83 (by kernel_rfl) (by kernel_rfl) (by kernel_rfl) (by kernel_rfl)
  have x7 := @run_callFunc_extern Tryd.prog 54 _ ReflectliteType.typeOf Tryd.func54 (by kernel_rfl) (by kernel_rfl) (by kernel_rfl) (by kernel_rfl)
  have x8 := @run_callFunc_extern Tryd.prog 80 _ assignEntry Tryd.func80 (by kernel_rfl) (by kernel_rfl) (by kernel_rfl) (by kernel_rfl)
  have x9 := @run_callFunc_extern Tryd.prog 55 _ elemEntry Tryd.func55 (by kernel_rfl) (by kernel_rfl) (by kernel_rfl) (by kernel_rfl)
  have x10 := @run_callFunc_extern Tryd.prog 56 _ ReflectliteValue.set Tryd.func56 (by kernel_rfl) (by kernel_rfl) (by kernel_rfl) (by kernel_rfl)
  have k1 := vOf_pe
  have k2 := vOf_e
  have k3 := type_pe
  have k4 := kind_pe
  have k5 := kind_e
  have k6 := m_kind
  have k7 := m_elem
  have k8 := m_impl
  have k9 := m_assign
  have k10 := elem_pe
  have k11 := impl_e
  have k12 := tOf_e
  have k13 := assign_ee
  have n1 := fun W => nil_pe W ⟨w.heap.size, 0, none⟩ ⟨g, 0, none⟩
  have hg0 : w.cell? ⟨0, 0, none⟩ = some (.iface 91 (.agg #[hdl 60])) := hG
  have hpos := hG.pos
  have hgl := ht.lt
  have n2 := elemV_pe (((w.alloc (.cells #[.pointer (some ⟨g, 0, none⟩)] 67)).alloc (.cells #[hdl 67, .pointer (some ⟨w.heap.size, 0, none⟩), .int .u64 150] 80)).alloc (.cells #[hdl 67, .pointer (some ⟨w.heap.size, 0, none⟩), .int .u64 150] 80)) ⟨w.heap.size, 0, none⟩ ⟨g, 0, none⟩ ((new3 w _ _ _ _ _ _).1.cell 0 rfl)
  obtain ⟨w4, hw4⟩ : ∃ w4, w4 = (((w.alloc (.cells #[.pointer (some ⟨g, 0, none⟩)] 67)).alloc (.cells #[hdl 67, .pointer (some ⟨w.heap.size, 0, none⟩), .int .u64 150] 80)).alloc (.cells #[hdl 67, .pointer (some ⟨w.heap.size, 0, none⟩), .int .u64 150] 80)).alloc (.cells #[.int .i64 n] 33) := ⟨_, rfl⟩
  have ht4 : Var w4 g 33 #[o] := by rw [hw4]; exact (((ht.alloc _).alloc _).alloc _).alloc _
  have hs4 : Var w4 (w.heap.size + 1 + 1 + 1) 33 #[.int .i64 n] := by
    rw [hw4]
    have := Var.new (((w.alloc (.cells #[.pointer (some ⟨g, 0, none⟩)] 67)).alloc (.cells #[hdl 67, .pointer (some ⟨w.heap.size, 0, none⟩), .int .u64 150] 80)).alloc (.cells #[hdl 67, .pointer (some ⟨w.heap.size, 0, none⟩), .int .u64 150] 80)) #[.int .i64 n] 33
    simpa only [World.size_alloc] using this
  have hk4 : Kept [g] w w4 := by rw [hw4]; exact ((((Kept.refl _ _).alloc _).alloc _).alloc _).alloc _
  have st := set_e w4 g _ n o ht4 hs4
  have hfin : AsPost true g 33 #[.int .i64 n] w (.returned (.bool true)) (w4.setCell ⟨g, 0, none⟩ (.int .i64 n)) := ⟨rfl, by simpa using ht4.set 0 (.int .i64 n), hk4.setCell (.inl (by simp)) _⟩
  subst hw4
  have HFIN := Lib.hid hfin
  clear hfin hk4 hs4 ht4 ht hG
  go_enter Tryd.func34, Tryd.ntmps34
  go_wp2
  refine wp_loop_rounds 1 ?_
  rw [rounds_succ]
  go_wp2
  go_ret
  exact HFIN.out

set_option maxRecDepth 100000 in
set_option maxHeartbeats 4000000 in
theorem as_errno_miss (g : Nat) (n : Int) (cs : Array Value) (w : World) (hG : Glob w) (ht : Var w g 64 cs) :
    Calls Tryd.prog 34 #[.iface 33 (.int .i64 n), .iface 66 (.pointer (some ⟨g, 0, none⟩))] w (AsPost false g 64 cs w) := by
  have x1 := @run_callFunc_extern Tryd.prog 46 _ (fun args => ReflectliteValue.unpack (args.getD 0 (.tuple #[]))) Tryd.func46 (by kernel_rfl) (by kernel_rfl) (by kernel_rfl) (by kernel_rfl)
  have x2 := @run_callFunc_extern Tryd.prog 47 _ typeEntry Tryd.func47 (by kernel_rfl) (by kernel_rfl) (by kernel_rfl) (by kernel_rfl)
  have x3 := @run_callFunc_extern Tryd.prog 48 _ nilEntry Tryd.func48 (by kernel_rfl) (by kernel_rfl) (by kernel_rfl) (by kernel_rfl)
  have x4 := @run_callFunc_extern Tryd.prog 71 _ kindEntry Tryd.func71 (by kernel_rfl) (by kernel_rfl) (by kernel_rfl) (by kernel_rfl)
  have x5 := @run_callFunc_extern Tryd.prog 82 _ (ReflectliteType.method ReflectliteType.elem) Tryd.func82 (by kernel_rfl) (by kernel_rfl) (by kernel_rfl) (by kernel_rfl)
  have x6 := @run_callFunc_extern Tryd.prog 83 _ implEntry Tryd.func83 (by kernel_rfl) (by kernel_rfl) (by kernel_rfl) (by kernel_rfl)
  have x7 := @run_callFunc_extern Tryd.prog 54 _ ReflectliteType.typeOf Tryd.func54 (by kernel_rfl) (by kernel_rfl) (by kernel_rfl) (by kernel_rfl)
  have x8 := @run_callFunc_extern Tryd.prog 80 _ assignEntry Tryd.func80 (by kernel_rfl) (by kernel_rfl) (by kernel_rfl) (by kernel_rfl)
  have x9 := @run_callFunc_extern Tryd.prog 55 _ elemEntry Tryd.func55 (by kernel_rfl) (by kernel_rfl) (by kernel_rfl) (by kernel_rfl)
  have x10 := @run_callFunc_extern Tryd.prog 56 _ ReflectliteValue.set Tryd.func56 (by kernel_rfl) (by kernel_rfl) (by kernel_rfl) (by kernel_rfl)
  have k1 := vOf_pf
  have k3 := type_pf
  have k4 := kind_pf
  have k5 := kind_f
  have k6 := m_kind
  have k7 := m_elem
  have k8 := m_impl
  have k9 := m_assign
  have k10 := elem_pf
  have k11 := impl_f
  have k12 := tOf_e
  have k13 := assign_ef
  have k14 := noAs_e
  have k15 := noUn_e
  have k16 := noUns_e
  have n1 := fun W => nil_pf W ⟨w.heap.size, 0, none⟩ ⟨g, 0, none⟩
  have hg0 : w.cell? ⟨0, 0, none⟩ = some (.iface 91 (.agg #[hdl 60])) := hG
  have hpos := hG.pos
  have hgl := ht.lt
  have hfin : AsPost false g 64 cs w (.returned (.bool false)) (((w.alloc (.cells #[.pointer (some ⟨g, 0, none⟩)] 66)).alloc (.cells #[hdl 66, .pointer (some ⟨w.heap.size, 0, none⟩), .int .u64 150] 80)).alloc (.cells #[hdl 66, .pointer (some ⟨w.heap.size, 0, none⟩), .int .u64 150] 80)) := ⟨rfl, ((ht.alloc _).alloc _).alloc _, (((Kept.refl _ _).alloc _).alloc _).alloc _⟩
  have HFIN := Lib.hid hfin
  clear hfin ht hG x9 x10
  go_enter Tryd.func34, Tryd.ntmps34
  go_wp2
  refine wp_loop_rounds 1 ?_
  rw [rounds_succ]
  go_wp2
  go_ret
  exact HFIN.out

theorem unwrap_any (c0 c1 c2 c3 c4 : Value) (w : World) : Calls Tryd.prog 75 #[.agg #[c0, c1, c2, c3, c4]] w fun e w' => e = .returned c0 ∧ w.alloc (.cells #[c0, c1, c2, c3, c4] 64) = w' := by
  go_enter Tryd.func75, Tryd.ntmps75
  go_wp2
  go_ret
  exact ⟨rfl, rfl⟩

set_option maxRecDepth 100000 in
set_option maxHeartbeats 4000000 in
theorem as_fall_errno (g : Nat) (n : Int) (c1 c2 c3 c4 o : Value) (w : World) (hG : Glob w) (ht : Var w g 33 #[o]) :
    Calls Tryd.prog 34 #[.iface 64 (.agg #[.iface 33 (.int .i64 n), c1, c2, c3, c4]), .iface 67 (.pointer (some ⟨g, 0, none⟩))] w (AsPost true g 33 #[.int .i64 n] w) := by
  have x1 := @run_callFunc_extern Tryd.prog 46 _ (fun args => ReflectliteValue.unpack (args.getD 0 (.tuple #[]))) Tryd.func46 (by kernel_rfl) (by kernel_rfl) (by kernel_rfl) (by kernel_rfl)
  have x2 := @run_callFunc_extern Tryd.prog 47 _ typeEntry Tryd.func47 (by kernel_rfl) (by kernel_rfl) (by kernel_rfl) (by kernel_rfl)
  have x3 := @run_callFunc_extern Tryd.prog 48 _ nilEntry Tryd.func48 (by kernel_rfl) (by kernel_rfl) (by kernel_rfl) (by kernel_rfl)
  have x4 := @run_callFunc_extern Tryd.prog 71 _ kindEntry Tryd.func71 (by kernel_rfl) (by kernel_rfl) (by kernel_rfl) (by kernel_rfl)
  have x5 := @run_callFunc_extern Tryd.prog 82 _ (ReflectliteType.method ReflectliteType.elem) Tryd.func82 (by kernel_rfl) (by kernel_rfl) (by kernel_rfl) (by kernel_rfl)
  have x6 := @run_callFunc_extern Tryd.prog 83 _ implEntry Tryd.func83 (by kernel_rfl) (by kernel_rfl) (by kernel_rfl) (by kernel_rfl)
  have x7 := @run_callFunc_extern Tryd.prog 54 _ ReflectliteType.typeOf Tryd.func54 (by kernel_rfl) (by kernel_rfl) (by kernel_rfl) (by kernel_rfl)
  have x8 := @run_callFunc_extern Tryd.prog 80 _ assignEntry Tryd.func80 (by kernel_rfl) (by kernel_rfl) (by kernel_rfl) (by kernel_rfl)
  have x9 := @run_callFunc_extern Tryd.prog 55 _ elemEntry Tryd.func55 (by kernel_rfl) (by kernel_rfl) (by kernel_rfl) (by kernel_rfl)
  have x10 := @run_callFunc_extern Tryd.prog 56 _ ReflectliteValue.set Tryd.func56 (by kernel_rfl) (by kernel_rfl) (by kernel_rfl) (by kernel_rfl)
  have k1 := vOf_pe
  have k2 := vOf_e
  have k3 := type_pe
  have k4 := kind_pe
  have k5 := kind_e
  have k6 := m_kind
  have k7 := m_elem
  have k8 := m_impl
  have k9 := m_assign
  have k10 := elem_pe
  have k11 := impl_e
  have k12 := tOf_e
  have k13 := assign_ee
  have k14 := tOf_f
  have k15 := assign_fe
  have k16 := noAs_f
  have k17 := un_f
  have k18 := m_unwrap
  have n1 := fun W => nil_pe W ⟨w.heap.size, 0, none⟩ ⟨g, 0, none⟩
  have hg0 : w.cell? ⟨0, 0, none⟩ = some (.iface 91 (.agg #[hdl 60])) := hG
  have hpos := hG.pos
  have hgl := ht.lt
  obtain ⟨w3, hw3⟩ : ∃ w3, w3 = (((w.alloc (.cells #[.pointer (some ⟨g, 0, none⟩)] 67)).alloc (.cells #[hdl 67, .pointer (some ⟨w.heap.size, 0, none⟩), .int .u64 150] 80)).alloc (.cells #[hdl 67, .pointer (some ⟨w.heap.size, 0, none⟩), .int .u64 150] 80)).alloc (.cells #[.iface 33 (.int .i64 n), c1, c2, c3, c4] 64) := ⟨_, rfl⟩
  have n2 := elemV_pe w3 ⟨w.heap.size, 0, none⟩ ⟨g, 0, none⟩ (by rw [hw3]; exact ((new3 w _ _ _ _ _ _).1.alloc _).cell 0 rfl)
  obtain ⟨w4, hw4⟩ : ∃ w4, w4 = w3.alloc (.cells #[.int .i64 n] 33) := ⟨_, rfl⟩
  have ht4 : Var w4 g 33 #[o] := by rw [hw4, hw3]; exact ((((ht.alloc _).alloc _).alloc _).alloc _).alloc _
  have hs4 : Var w4 (w.heap.size + 1 + 1 + 1 + 1) 33 #[.int .i64 n] := by
    rw [hw4]
    have := Var.new w3 #[.int .i64 n] 33
    rw [hw3] at this ⊢
    simpa only [World.size_alloc] using this
  have hk4 : Kept [g] w w4 := by rw [hw4, hw3]; exact (((((Kept.refl _ _).alloc _).alloc _).alloc _).alloc _).alloc _
  have st := set_e w4 g _ n o ht4 hs4
  have hfin : AsPost true g 33 #[.int .i64 n] w (.returned (.bool true)) (w4.setCell ⟨g, 0, none⟩ (.int .i64 n)) := ⟨rfl, by simpa using ht4.set 0 (.int .i64 n), hk4.setCell (.inl (by simp)) _⟩
  subst hw4
  subst hw3
  have HFIN := Lib.hid hfin
  clear hfin hk4 hs4 ht4 ht hG
  go_enter Tryd.func34, Tryd.ntmps34
  go_wp2
  refine wp_loop_rounds 2 ?_
  rw [rounds_succ]
  go_wp2_with (go_at_call 75; refine (unwrap_any _ _ _ _ _ _).mono ?_; rintro e w1 ⟨rfl, rfl⟩)
  rw [rounds_succ]
  go_wp2
  go_ret
  exact HFIN.out

end Go.Proofs.YtbglpmjfajmkdaaDoor
