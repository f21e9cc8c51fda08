/-
  errors.As at the errors of disk: the contracts. Conditions: the one package variable of errors holds what the program's text lays (Glob).
-/
import Derived.Test.YtpppeadmhfggkaaGreatDoorDskAsC
namespace Go.Proofs.YtpppeadmhfggkaaGreatDoor
open Go.RowKit DP Go.Extern.Stop Go.Stop Go.Extern

set_option maxRecDepth 100000 in
set_option maxHeartbeats 4000000 in
theorem as_errno_hit (g : Nat) (n : Int) (o : Value) (w : World) (hG : Glob w) (ht : Var w g 34 #[o]) :
    Calls Tryz.prog 25 #[.iface 34 (.int .i64 n), .iface 74 (.pointer (some ⟨g, 0, none⟩))] w (AsPost true g 34 #[.int .i64 n] w) := by
  have x1 := @run_callFunc_extern Tryz.prog 42 _ (fun args => ReflectliteValue.unpack (args.getD 0 (.tuple #[]))) Tryz.func42 (by kernel_rfl) (by kernel_rfl) (by kernel_rfl) (by kernel_rfl)
  have x2 := @run_callFunc_extern Tryz.prog 43 _ typeEntry Tryz.func43 (by kernel_rfl) (by kernel_rfl) (by kernel_rfl) (by kernel_rfl)
  have x3 := @run_callFunc_extern Tryz.prog 44 _ nilEntry Tryz.func44 (by kernel_rfl) (by kernel_rfl) (by kernel_rfl) (by kernel_rfl)
  have x4 := @run_callFunc_extern Tryz.prog 110 _ kindEntry Tryz.func110 (by kernel_rfl) (by kernel_rfl) (by kernel_rfl) (by kernel_rfl)
  have x5 := @run_callFunc_extern Tryz.prog 121 _ (ReflectliteType.method ReflectliteType.elem) Tryz.func121 (by kernel_rfl) (by kernel_rfl) (by kernel_rfl) (by kernel_rfl)
  have x6 := @run_callFunc_extern Tryz.prog 122 _ implEntry Tryz.func122 (by kernel_rfl) (by kernel_rfl) (by kernel_rfl) (by kernel_rfl)
  have x7 := @run_callFunc_extern Tryz.prog 36 _ ReflectliteType.typeOf Tryz.func36 (by kernel_rfl) (by kernel_rfl) (by kernel_rfl) (by kernel_rfl)
  have x8 := @run_callFunc_extern Tryz.prog 119 _ assignEntry Tryz.func119 (by kernel_rfl) (by kernel_rfl) (by kernel_rfl) (by kernel_rfl)
  have x9 := @run_callFunc_extern Tryz.prog 63 _ elemEntry Tryz.func63 (by kernel_rfl) (by kernel_rfl) (by kernel_rfl) (by kernel_rfl)
  have x10 := @run_callFunc_extern Tryz.prog 64 _ ReflectliteValue.set Tryz.func64 (by kernel_rfl) (by kernel_rfl) (by kernel_rfl) (by kernel_rfl)
  have k1 := vOf_pe
  have k2 := vOf_e
  have k3 := type_pe
  have k4 := kind_pe
  have k5 := kind_e
  have k6 := m_kind
  have k7 := m_elem
  have k8 := m_impl
  have k9 := m_assign
  have k10 := elem_pe
  have k11 := impl_e
  have k12 := tOf_e
  have k13 := assign_ee
  have n1 := fun W => nil_pe W ⟨w.heap.size, 0, none⟩ ⟨g, 0, none⟩
  have hg0 : w.cell? ⟨0, 0, none⟩ = some (.iface 116 (.agg #[hdl 30])) := hG
  have hpos := hG.pos
  have hgl := ht.lt
  have n2 := elemV_pe (((w.alloc (.cells #[.pointer (some ⟨g, 0, none⟩)] 74)).alloc (.cells #[hdl 74, .pointer (some ⟨w.heap.size, 0, none⟩), .int .u64 150] 87)).alloc (.cells #[hdl 74, .pointer (some ⟨w.heap.size, 0, none⟩), .int .u64 150] 87)) ⟨w.heap.size, 0, none⟩ ⟨g, 0, none⟩ ((new3 w _ _ _ _ _ _).1.cell 0 rfl)
  obtain ⟨w4, hw4⟩ : ∃ w4, w4 = (((w.alloc (.cells #[.pointer (some ⟨g, 0, none⟩)] 74)).alloc (.cells #[hdl 74, .pointer (some ⟨w.heap.size, 0, none⟩), .int .u64 150] 87)).alloc (.cells #[hdl 74, .pointer (some ⟨w.heap.size, 0, none⟩), .int .u64 150] 87)).alloc (.cells #[.int .i64 n] 34) := ⟨_, rfl⟩
  have ht4 : Var w4 g 34 #[o] := by rw [hw4]; exact (((ht.alloc _).alloc _).alloc _).alloc _
  have hs4 : Var w4 (w.heap.size + 1 + 1 + 1) 34 #[.int .i64 n] := by
    rw [hw4]
    have := Var.new (((w.alloc (.cells #[.pointer (some ⟨g, 0, none⟩)] 74)).alloc (.cells #[hdl 74, .pointer (some ⟨w.heap.size, 0, none⟩), .int .u64 150] 87)).alloc (.cells #[hdl 74, .pointer (some ⟨w.heap.size, 0, none⟩), .int .u64 150] 87)) #[.int .i64 n] 34
    simpa only [World.size_alloc] using this
  have hk4 : Kept [g] w w4 := by rw [hw4]; exact ((((Kept.refl _ _).alloc _).alloc _).alloc _).alloc _
  have st := set_e w4 g _ n o ht4 hs4
  have hfin : AsPost true g 34 #[.int .i64 n] w (.returned (.bool true)) (w4.setCell ⟨g, 0, none⟩ (.int .i64 n)) := ⟨rfl, by simpa using ht4.set 0 (.int .i64 n), hk4.setCell (.inl (by simp)) _⟩
  subst hw4
  have HFIN := Lib.hid hfin
  clear hfin hk4 hs4 ht4 ht hG
  go_enter Tryz.func25, Tryz.ntmps25
  go_wp2
  refine wp_loop_rounds 1 ?_
  rw [rounds_succ]
  go_wp2
  go_ret
  exact HFIN.out

set_option maxRecDepth 100000 in
set_option maxHeartbeats 4000000 in
theorem as_errno_miss (g : Nat) (n : Int) (cs : Array Value) (w : World) (hG : Glob w) (ht : Var w g 72 cs) :
    Calls Tryz.prog 25 #[.iface 34 (.int .i64 n), .iface 73 (.pointer (some ⟨g, 0, none⟩))] w (AsPost false g 72 cs w) := by
  have x1 := @run_callFunc_extern Tryz.prog 42 _ (fun args => ReflectliteValue.unpack (args.getD 0 (.tuple #[]))) Tryz.func42 (by kernel_rfl) (by kernel_rfl) (by kernel_rfl) (by kernel_rfl)
  have x2 := @run_callFunc_extern Tryz.prog 43 _ typeEntry Tryz.func43 (by kernel_rfl) (by kernel_rfl) (by kernel_rfl) (by kernel_rfl)
  have x3 := @run_callFunc_extern Tryz.prog 44 _ nilEntry Tryz.func44 (by kernel_rfl) (by kernel_rfl) (by kernel_rfl) (by kernel_rfl)
  have x4 := @run_callFunc_extern Tryz.prog 110 _ kindEntry Tryz.func110 (by kernel_rfl) (by kernel_rfl) (by kernel_rfl) (by kernel_rfl)
  have x5 := @run_callFunc_extern Tryz.prog 121 _ (ReflectliteType.method ReflectliteType.elem) Tryz.func121 (by kernel_rfl) (by kernel_rfl) (by kernel_rfl) (by kernel_rfl)
  have x6 := @run_callFunc_extern Tryz.prog 122 _ implEntry Tryz.func122 (by kernel_rfl) (by kernel_rfl) (by kernel_rfl) (by kernel_rfl)
  have x7 := @run_callFunc_extern Tryz.prog 36 _ ReflectliteType.typeOf Tryz.func36 (by kernel_rfl) (by kernel_rfl) (by kernel_rfl) (by kernel_rfl)
  have x8 := @run_callFunc_extern Tryz.prog 119 _ assignEntry Tryz.func119 (by kernel_rfl) (by kernel_rfl) (by kernel_rfl) (by kernel_rfl)
  have x9 := @run_callFunc_extern Tryz.prog 63 _ elemEntry Tryz.func63 (by kernel_rfl) (by kernel_rfl) (by kernel_rfl) (by kernel_rfl)
  have x10 := @run_callFunc_extern Tryz.prog 64 _ ReflectliteValue.set Tryz.func64 (by kernel_rfl) (by kernel_rfl) (by kernel_rfl) (by kernel_rfl)
  have k1 := vOf_pf
  have k3 := type_pf
  have k4 := kind_pf
  have k5 := kind_f
  have k6 := m_kind
  have k7 := m_elem
  have k8 := m_impl
  have k9 := m_assign
  have k10 := elem_pf
  have k11 := impl_f
  have k12 := tOf_e
  have k13 := assign_ef
  have k14 := noAs_e
  have k15 := noUn_e
  have k16 := noUns_e
  have n1 := fun W => nil_pf W ⟨w.heap.size, 0, none⟩ ⟨g, 0, none⟩
  have hg0 : w.cell? ⟨0, 0, none⟩ = some (.iface 116 (.agg #[hdl 30])) := hG
  have hpos := hG.pos
  have hgl := ht.lt
  have hfin : AsPost false g 72 cs w (.returned (.bool false)) (((w.alloc (.cells #[.pointer (some ⟨g, 0, none⟩)] 73)).alloc (.cells #[hdl 73, .pointer (some ⟨w.heap.size, 0, none⟩), .int .u64 150] 87)).alloc (.cells #[hdl 73, .pointer (some ⟨w.heap.size, 0, none⟩), .int .u64 150] 87)) := ⟨rfl, ((ht.alloc _).alloc _).alloc _, (((Kept.refl _ _).alloc _).alloc _).alloc _⟩
  have HFIN := Lib.hid hfin
  clear hfin ht hG x9 x10
  go_enter Tryz.func25, Tryz.ntmps25
  go_wp2
  refine wp_loop_rounds 1 ?_
  rw [rounds_succ]
  go_wp2
  go_ret
  exact HFIN.out

theorem unwrap_any (c0 c1 c2 c3 c4 : Value) (w : World) : Calls Tryz.prog 113 #[.agg #[c0, c1, c2, c3, c4]] w fun e w' => e = .returned c0 ∧ w.alloc (.cells #[c0, c1, c2, c3, c4] 72) = w' := by
  go_enter Tryz.func113, Tryz.ntmps113
  go_wp2
  go_ret
  exact ⟨rfl, rfl⟩

set_option maxRecDepth 100000 in
set_option maxHeartbeats 4000000 in
theorem as_fall_errno (g : Nat) (n : Int) (c1 c2 c3 c4 o : Value) (w : World) (hG : Glob w) (ht : Var w g 34 #[o]) :
    Calls Tryz.prog 25 #[.iface 72 (.agg #[.iface 34 (.int .i64 n), c1, c2, c3, c4]), .iface 74 (.pointer (some ⟨g, 0, none⟩))] w (AsPost true g 34 #[.int .i64 n] w) := by
  have x1 := @run_callFunc_extern Tryz.prog 42 _ (fun args => ReflectliteValue.unpack (args.getD 0 (.tuple #[]))) Tryz.func42 (by kernel_rfl) (by kernel_rfl) (by kernel_rfl) (by kernel_rfl)
  have x2 := @run_callFunc_extern Tryz.prog 43 _ typeEntry Tryz.func43 (by kernel_rfl) (by kernel_rfl) (by kernel_rfl) (by kernel_rfl)
  have x3 := @run_callFunc_extern Tryz.prog 44 _ nilEntry Tryz.func44 (by kernel_rfl) (by kernel_rfl) (by kernel_rfl) (by kernel_rfl)
  have x4 := @run_callFunc_extern Tryz.prog 110 _ kindEntry Tryz.func110 (by kernel_rfl) (by kernel_rfl) (by kernel_rfl) (by kernel_rfl)
  have x5 := @run_callFunc_extern Tryz.prog 121 _ (ReflectliteType.method ReflectliteType.elem) Tryz.func121 (by kernel_rfl) (by kernel_rfl) (by kernel_rfl) (by kernel_rfl)
  have x6 := @run_callFunc_extern Tryz.prog 122 _ implEntry Tryz.func122 (by kernel_rfl) (by kernel_rfl) (by kernel_rfl) (by kernel_rfl)
  have x7 := @run_callFunc_extern Tryz.prog 36 _ ReflectliteType.typeOf Tryz.func36 (by kernel_rfl) (by kernel_rfl) (by kernel_rfl) (by kernel_rfl)
  have x8 := @run_callFunc_extern Tryz.prog 119 _ assignEntry Tryz.func119 (by kernel_rfl) (by kernel_rfl) (by kernel_rfl) (by kernel_rfl)
  have x9 := @run_callFunc_extern Tryz.prog 63 _ elemEntry Tryz.func63 (by kernel_rfl) (by kernel_rfl) (by kernel_rfl) (by kernel_rfl)
  have x10 := @run_callFunc_extern Tryz.prog 64 _ ReflectliteValue.set Tryz.func64 (by kernel_rfl) (by kernel_rfl) (by kernel_rfl) (by kernel_rfl)
  have k1 := vOf_pe
  have k2 := vOf_e
  have k3 := type_pe
  have k4 := kind_pe
  have k5 := kind_e
  have k6 := m_kind
  have k7 := m_elem
  have k8 := m_impl
  have k9 := m_assign
  have k10 := elem_pe
  have k11 := impl_e
  have k12 := tOf_e
  have k13 := assign_ee
  have k14 := tOf_f
  have k15 := assign_fe
  have k16 := noAs_f
  have k17 := un_f
  have k18 := m_unwrap
  have n1 := fun W => nil_pe W ⟨w.heap.size, 0, none⟩ ⟨g, 0, none⟩
  have hg0 : w.cell? ⟨0, 0, none⟩ = some (.iface 116 (.agg #[hdl 30])) := hG
  have hpos := hG.pos
  have hgl := ht.lt
  obtain ⟨w3, hw3⟩ : ∃ w3, w3 = (((w.alloc (.cells #[.pointer (some ⟨g, 0, none⟩)] 74)).alloc (.cells #[hdl 74, .pointer (some ⟨w.heap.size, 0, none⟩), .int .u64 150] 87)).alloc (.cells #[hdl 74, .pointer (some ⟨w.heap.size, 0, none⟩), .int .u64 150] 87)).alloc (.cells #[.iface 34 (.int .i64 n), c1, c2, c3, c4] 72) := ⟨_, rfl⟩
  have n2 := elemV_pe w3 ⟨w.heap.size, 0, none⟩ ⟨g, 0, none⟩ (by rw [hw3]; exact ((new3 w _ _ _ _ _ _).1.alloc _).cell 0 rfl)
  obtain ⟨w4, hw4⟩ : ∃ w4, w4 = w3.alloc (.cells #[.int .i64 n] 34) := ⟨_, rfl⟩
  have ht4 : Var w4 g 34 #[o] := by rw [hw4, hw3]; exact ((((ht.alloc _).alloc _).alloc _).alloc _).alloc _
  have hs4 : Var w4 (w.heap.size + 1 + 1 + 1 + 1) 34 #[.int .i64 n] := by
    rw [hw4]
    have := Var.new w3 #[.int .i64 n] 34
    rw [hw3] at this ⊢
    simpa only [World.size_alloc] using this
  have hk4 : Kept [g] w w4 := by rw [hw4, hw3]; exact (((((Kept.refl _ _).alloc _).alloc _).alloc _).alloc _).alloc _
  have st := set_e w4 g _ n o ht4 hs4
  have hfin : AsPost true g 34 #[.int .i64 n] w (.returned (.bool true)) (w4.setCell ⟨g, 0, none⟩ (.int .i64 n)) := ⟨rfl, by simpa using ht4.set 0 (.int .i64 n), hk4.setCell (.inl (by simp)) _⟩
  subst hw4
  subst hw3
  have HFIN := Lib.hid hfin
  clear hfin hk4 hs4 ht4 ht hG
  go_enter Tryz.func25, Tryz.ntmps25
  go_wp2
  refine wp_loop_rounds 2 ?_
  rw [rounds_succ]
  go_wp2_with (go_at_call 113; refine (unwrap_any _ _ _ _ _ _).mono ?_; rintro e w1 ⟨rfl, rfl⟩)
  rw [rounds_succ]
  go_wp2
  go_ret
  exact HFIN.out

end Go.Proofs.YtpppeadmhfggkaaGreatDoor
